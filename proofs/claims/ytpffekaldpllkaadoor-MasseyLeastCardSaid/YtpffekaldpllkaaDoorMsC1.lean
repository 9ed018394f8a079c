/- Contracts of package massey, first part: Check, missing. -/
import Derived.Test.YtpffekaldpllkaaDoorMsM
import Derived.Test.YtpffekaldpllkaaDoorCopP
import Derived.Deep.RegionHeld3
namespace Go.Proofs.YtpffekaldpllkaaDoor
open Go.ChangeShapes Go.WideShapes Go.ChangeAt Go.RowKit
set_option linter.unusedVariables false

theorem mval (a : Fp.F) : 0 ≤ (a.val : Int) ∧ (a.val : Int) ≤ 9972 := Fp.val_bound a

theorem sChk_full (A : Option Addr) (L : List Int) (c : Nat) (w : World) (h : 16 < L.length) :
    Calls Tryd.prog 7 #[.slice A L.length c] w fun e w' => e = .returned (errOf (scd L)) ∧ w = w' := by
  rw [scd_full h]
  generalize L.length = n at *
  have h' : (16 : Int) < n := by omega
  clear h
  go_enter Tryd.func7, Tryd.ntmps7
  go_wp2
  go_ret
  exact ⟨rfl, rfl⟩

set_option maxHeartbeats 800000 in
theorem sChk_main (A : Option Addr) (l : List Int) (c : Nat) (w : World) (hl : Lies w A l) (hn : l.length ≤ 16) :
    Calls Tryd.prog 7 #[.slice A l.length c] w fun e w' => e = .returned (errOf (scd l)) ∧ w = w' := by
  have HL := Lib.hid hl
  have BAD := Lib.hid (fun h : ¬ AllIn l 0 9972 => scd_range (by omega) h)
  have OK := Lib.hid (fun h : AllIn l 0 9972 => scd_ok (by omega) h)
  obtain ⟨v, hv⟩ : ∃ v, v = scd l := ⟨_, rfl⟩
  rw [← hv] at BAD OK ⊢
  obtain ⟨n, hn'⟩ : ∃ n, n = l.length := ⟨_, rfl⟩
  rw [← hn'] at hn ⊢
  have HN := Lib.hid hn'
  have h16 : ¬ (16 : Int) < (n : Int) := by omega
  clear hl hn' hv
  go_enter Tryd.func7, Tryd.ntmps7
  go_wp2_with fail
  go_loop [11] (fun i => ∃ k : Nat, k ≤ n ∧ i = .int .i64 (k : Int) ∧ ∀ j, j < k → 0 ≤ l.getD j 0 ∧ l.getD j 0 ≤ 9972) (fun i => n - (intOf i).toNat)
  case atStart => exact ⟨0, Nat.zero_le _, rfl, fun j hj => absurd hj (by omega)⟩
  case round =>
    obtain ⟨k, hk, rfl, hg⟩ := hrel
    have HG := Lib.hid hg
    clear hg
    by_cases hlt : k < n
    · obtain ⟨ad, rfl, _, hc⟩ := HL.out k (by have := HN.out; omega)
      obtain ⟨m, hm⟩ : ∃ m, m = l.getD k 0 := ⟨_, rfl⟩
      rw [← hm] at hc
      by_cases h0 : m < 0
      · have E := Lib.hid (BAD.out fun hh => by have := hh k (by have := HN.out; omega); rw [← hm] at this; omega)
        clear hm
        go_wp2_with fail
        go_ret
        exact ⟨by rw [E.out]; rfl, rfl⟩
      · by_cases h1 : m ≤ 9972
        · have GG := Lib.hid (show ∀ j, j < k + 1 → 0 ≤ l.getD j 0 ∧ l.getD j 0 ≤ 9972 from fun j hj => by
            by_cases e : j = k
            · subst e; rw [← hm]; omega
            · exact HG.out j (by omega))
          have h2 : ¬ 9973 ≤ m := by omega
          clear hm
          go_wp2_with fail
          go_round
          case rel => exact ⟨k + 1, by omega, by go_num, GG.out⟩
          case measure => simp [intOf]; omega
        · have E := Lib.hid (BAD.out fun hh => by have := hh k (by have := HN.out; omega); rw [← hm] at this; omega)
          have h2 : 9973 ≤ m := by omega
          clear hm h1
          go_wp2_with fail
          go_ret
          exact ⟨by rw [E.out]; rfl, rfl⟩
    · have E := Lib.hid (OK.out (fun j hj => HG.out j (by have := HN.out; omega)))
      go_wp2_with fail
      go_ret
      exact ⟨by rw [E.out]; rfl, rfl⟩
theorem sChk_any (A : Option Addr) (l : List Int) (c : Nat) (w : World) (hl : Lies w A l) :
    Calls Tryd.prog 7 #[.slice A l.length c] w fun e w' => e = .returned (errOf (scd l)) ∧ w = w' := by
  by_cases h : 16 < l.length
  · exact sChk_full A l c w h
  · exact sChk_main A l c w hl (by omega)
theorem sChk_good {N : Nat} {x : Nat → Fp.F} {L : List Int} (s : Sr N x L) (A : Option Addr) (c : Nat) (w : World) (hl : Lies w A L) :
    Calls Tryd.prog 7 #[.slice A N c] w fun e w' => e = .returned .nilIface ∧ w = w' := by
  have h := sChk_any A L c w hl
  rw [s.code, s.len] at h
  exact h

set_option maxRecDepth 100000 in
set_option maxHeartbeats 1600000 in
theorem smiss_any (A B : Option Addr) (N l i c d : Nat) (x f : Nat → Fp.F) (w : World) (ha : Lies w A (rowF N x)) (hb : Lies w B (rowF l f)) (hN : N ≤ 16) (hi : i < N) (hl : l ≤ i) :
    Calls Tryd.prog 20 #[.slice A N c, .slice B l d, .int .i64 (i : Int)] w fun e w' => e = .returned (.int .i64 ((Mx.dsc l f x i).val : Int)) ∧ w = w' := by
  have HA := Lib.hid ha
  have HB := Lib.hid hb
  obtain ⟨ad0, rfl, _, y1⟩ := ha.el hi
  have b0 := mval (x i)
  have HX0 := Lib.hid (Fp.ofInt_self (x i))
  obtain ⟨x0, hx0⟩ : ∃ x0, x0 = ((x i).val : Int) := ⟨_, rfl⟩
  rw [← hx0] at y1 b0 HX0
  clear ha hb hx0
  go_enter Tryd.func20, Tryd.ntmps20
  go_wp2_with fail
  go_loop [7, 8, 9, 16] (fun s _ _ j => ∃ (k : Nat) (z : Int), k ≤ l ∧ j = .int .i64 (k : Int) ∧ s = .int .i64 z ∧ 0 ≤ z ∧ z ≤ 100000000 * (k + 1) ∧ Fp.ofInt z = x i - Mx.sg k fun k => f k * x (i - 1 - k)) (fun _ _ _ j => l - (intOf j).toNat)
  case atStart => exact ⟨0, _, Nat.zero_le _, rfl, rfl, by omega, by omega, by rw [HX0.out, Mx.sg_zero]; grind⟩
  case round =>
    clear y1 b0
    obtain ⟨k, z, hk, rfl, rfl, z0, z1, hz⟩ := hrel
    have HZ := Lib.hid hz
    clear hz
    by_cases hlt : k < l
    · obtain ⟨ad1, rfl, _, x1⟩ := HB.out.el hlt
      obtain ⟨j, hj⟩ : ∃ j : Nat, j = i - 1 - k := ⟨_, rfl⟩
      have hji : j < N := by omega
      obtain ⟨ad2, e2, _, x2⟩ := HA.out.el hji
      obtain rfl := Option.some.inj e2
      have e1 : (i : Int) - 1 - (k : Int) = (j : Int) := by omega
      have b1 := mval (f k)
      have b2 := mval (x j)
      have HF := Lib.hid (show Fp.ofInt (z + (9973 - ((f k).val : Int)) * ((x j).val : Int)) = x i - Mx.sg (k + 1) fun k => f k * x (i - 1 - k) by
        rw [show z + (9973 - ((f k).val : Int)) * ((x j).val : Int) = z + (9973 + (-1) * ((f k).val : Int)) * ((x j).val : Int) by grind]
        rw [Fp.ofInt_add, Fp.ofInt_mul, Fp.ofInt_add, Fp.ofInt_mul, HZ.out, Fp.ofInt_self, Fp.ofInt_self, Mx.sg_succ, hj, show Fp.ofInt 9973 = 0 from by decide +kernel, show Fp.ofInt (-1) = -1 from by decide +kernel]; grind)
      have q1 := Int.mul_nonneg (show 0 ≤ 9973 - ((f k).val : Int) by omega) b2.1
      have q2 := Int.mul_le_mul (show 9973 - ((f k).val : Int) ≤ 9973 by omega) b2.2 b2.1 (by omega)
      clear hj e2
      generalize ((f k).val : Int) = a at *
      generalize ((x j).val : Int) = b at *
      have hw0 : IntKind.i64.wrap ((i : Int) - 1) = (i : Int) - 1 := IntWalk.i64_in _ (by omega)
      have hw1 : IntKind.i64.wrap ((i : Int) - 1 - (k : Int)) = (j : Int) := by rw [e1]; exact IntWalk.i64_in _ (by omega)
      have hws : IntKind.i64.wrap (9973 - a) = 9973 - a := IntWalk.i64_in _ (by omega)
      have hwm : IntKind.i64.wrap ((9973 - a) * b) = (9973 - a) * b := IntWalk.i64_in _ (by omega)
      have hwa : IntKind.i64.wrap (z + (9973 - a) * b) = z + (9973 - a) * b := IntWalk.i64_in _ (by omega)
      go_wp2_with fail
      go_round
      case rel => exact ⟨k + 1, z + (9973 - a) * b, by omega, by go_num, rfl, by omega, by omega, HF.out⟩
      case measure => simp [intOf]; omega
    · obtain rfl : k = l := by omega
      have HM := Lib.hid (show z % 9973 = ((Mx.dsc k f x i).val : Int) by
        show _ = ((x i - Mx.sg k fun t => f t * x (i - 1 - t) : Fp.F).val : Int)
        rw [← HZ.out, Fp.ofInt_val])
      go_wp2_with fail
      go_ret
      refine ⟨?_, rfl⟩
      show Ending.returned (.int .i64 (z % 9973)) = _
      rw [HM.out]

end Go.Proofs.YtpffekaldpllkaaDoor
