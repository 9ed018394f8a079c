/- Contract of the document's Sign: for all packages. -/
import Derived.Test.YtdkdpklohfdpmaaDeC1
import Derived.Test.YtdkdpklohfdpmaaIdx
import Derived.Deep.QuietTactic
namespace Go.Proofs.Ytdkdpklohfdpmaa
open Go.ChangeShapes Go.WideShapes Go.ChangeAt Go.RowKit
set_option linter.unusedVariables false

set_option maxRecDepth 100000 in
set_option maxHeartbeats 3200000 in
theorem rSign_any (A : Option Addr) (l : List Int) (n c : Nat) (w : World) (hl : Lies w A l) (hn : l.length = n) (h1 : n ≤ 1000) :
    Calls Try.prog 8 #[.slice A n c] w fun e w' => ∃ x, e = .returned (.int .i64 x) ∧ Mx.SgnIs (Mx.sp n fun i => l.getD i 0) x ∧ Kp w w' := by
  obtain ⟨s, hs⟩ : ∃ s : Nat → Int, s = fun i => l.getD i 0 := ⟨_, rfl⟩
  rw [← hs]
  have HL := Lib.hid hl
  have HN := Lib.hid hn
  have HS := Lib.hid hs
  have HAS := Lib.hid (fun (w : World) (k : Nat) (h : Lies w A l) => refHas_any A l n c (k : Int) w h (by omega) (by omega))
  clear hl hn hs
  go_enter Try.func8, Try.ntmps8
  go_wp2_with fail
  go_loopw [3, 4] (fun o i wr => ∃ (k : Nat) (x : Int), k ≤ n ∧ i = .int .i64 (k : Int) ∧ o = .int .i64 x ∧ (x = 1 ∨ x = -1) ∧ Fp.ofInt x = Mx.inv k s ∧ (∀ t : Nat, t < k → ∃ j, j < n ∧ s j = (t : Int)) ∧ Kp w wr) (fun _ i _ => n - (intOf i).toNat)
  case atStart => exact ⟨0, 1, Nat.zero_le _, rfl, rfl, .inl rfl, rfl, fun t ht => absurd ht (by omega), Kp.rfl' _⟩
  case round =>
    obtain ⟨k, x, hk, rfl, rfl, hx, he, ht, hkp⟩ := hrel
    have HX := Lib.hid hx
    have HE := Lib.hid he
    have HT := Lib.hid ht
    have HK := Lib.hid hkp
    clear hx he ht hkp
    by_cases hlt : k < n
    · by_cases hoc : Occurs l n (k : Int)
      · have HA1 := Lib.hid (fun (w : World) (h : Lies w A l) => (HAS.out w k h).mono fun e w' h' => show e = .returned (.bool true) ∧ w = w' from ⟨tells_yes h'.1 hoc, h'.2⟩)
        have HT2 := Lib.hid (show ∀ t : Nat, t < k + 1 → ∃ j, j < n ∧ s j = (t : Int) from fun t ht => by
          by_cases e : t = k
          · obtain ⟨j, h1, h2⟩ := hoc
            exact ⟨j, h1, by rw [HS.out, e]; exact h2⟩
          · exact HT.out t (by omega))
        clear hoc
        go_wp2_with fail
        refine (HA1.out _ (HL.out.keep HK.out)).mono ?_; rintro e w1 ⟨rfl, rfl⟩
        obtain ⟨wo, hwo⟩ : ∃ y, y = wr := ⟨_, rfl⟩
        rw [← hwo] at HK ⊢
        clear hwo
        go_wp2_with fail
        go_loopw [3, 5] (fun o i wr => ∃ (t : Nat) (x : Int), t ≤ k ∧ i = .int .i64 (t : Int) ∧ o = .int .i64 x ∧ (x = 1 ∨ x = -1) ∧ Fp.ofInt x = Mx.inv k s * Mx.pr t (fun y => Mx.e2 (s y) (s k)) ∧ Kp w wr) (fun _ i _ => k - (intOf i).toNat)
        case atStart => exact ⟨0, x, Nat.zero_le _, rfl, rfl, HX.out, by rw [HE.out]; show _ = _ * 1; grind, HK.out⟩
        case round =>
          clear HX HE HK
          obtain ⟨t, x, ht, rfl, rfl, hx, he, hkp⟩ := hrel
          have HX := Lib.hid hx
          have HE := Lib.hid he
          have HK := Lib.hid hkp
          have hxb : -1 ≤ x ∧ x ≤ 1 := by rcases hx with a | a <;> omega
          clear hx he
          by_cases hlt2 : t < k
          · obtain ⟨ad, rfl, _, y1⟩ := (HL.out.keep hkp) t (by rw [HN.out]; omega)
            obtain ⟨_, e, _, y2⟩ := (HL.out.keep hkp) k (by rw [HN.out]; omega)
            cases e
            obtain ⟨u, hu⟩ : ∃ u, u = l.getD t 0 := ⟨_, rfl⟩
            obtain ⟨v, hv⟩ : ∃ v, v = l.getD k 0 := ⟨_, rfl⟩
            rw [← hu] at y1
            rw [← hv] at y2
            have HU := Lib.hid (show s t = u ∧ s k = v by rw [HS.out]; exact ⟨hu.symm, hv.symm⟩)
            have hwn : IntKind.i64.wrap (-x) = -x := IntWalk.i64_in _ (by omega)
            clear hu hv hkp
            by_cases h2 : v < u
            · have HE2 := Lib.hid (show Fp.ofInt (-x) = Mx.inv k s * Mx.pr (t + 1) (fun y => Mx.e2 (s y) (s k)) by
                rw [Mx.ofInt_neg, HE.out]
                show _ = Mx.inv k s * (Mx.pr t _ * Mx.e2 (s t) (s k))
                rw [HU.out.1, HU.out.2]
                unfold Mx.e2
                rw [if_pos h2]; grind)
              have HX2 := Lib.hid (show -x = 1 ∨ -x = -1 by rcases HX.out with a | a <;> omega)
              go_wp2_with fail
              go_quiet (fail)
              go_wp2_with fail
              go_roundw
              case rel => exact ⟨t + 1, -x, by omega, by go_num, rfl, HX2.out, HE2.out, HK.out.drewN _⟩
              case measure => simp [intOf]; omega
            · have HE2 := Lib.hid (show Fp.ofInt x = Mx.inv k s * Mx.pr (t + 1) (fun y => Mx.e2 (s y) (s k)) by
                rw [HE.out]
                show _ = Mx.inv k s * (Mx.pr t _ * Mx.e2 (s t) (s k))
                rw [HU.out.1, HU.out.2]
                unfold Mx.e2
                rw [if_neg h2]; grind)
              go_wp2_with fail
              go_quiet (fail)
              go_wp2_with fail
              go_roundw
              case rel => exact ⟨t + 1, x, by omega, by go_num, rfl, HX.out, HE2.out, HK.out.drewN _⟩
              case measure => simp [intOf]; omega
          · obtain rfl : t = k := by omega
            clear hkp
            go_wp2_with fail
            go_roundw
            case rel => exact ⟨t + 1, x, by omega, by go_num, rfl, HX.out, HE.out, HT2.out, HK.out⟩
            case measure => simp [intOf]; omega
      · have HA1 := Lib.hid (fun (w : World) (h : Lies w A l) => (HAS.out w k h).mono fun e w' h' => show e = .returned (.bool false) ∧ w = w' from ⟨tells_no h'.1 hoc, h'.2⟩)
        have Z := Lib.hid (show Mx.SgnIs (Mx.sp n s) 0 from ⟨.inr (.inr rfl), by
          rw [Mx.sp_miss hlt fun i hi e => hoc ⟨i, hi, by rw [HS.out] at e; exact e⟩]; rfl⟩)
        clear hoc
        go_wp2_with fail
        refine (HA1.out _ (HL.out.keep HK.out)).mono ?_; rintro e w1 ⟨rfl, rfl⟩
        go_wp2_with fail
        go_ret
        exact ⟨0, rfl, Z.out, HK.out⟩
    · obtain rfl : k = n := by omega
      have Z := Lib.hid (show Mx.SgnIs (Mx.sp k s) x from ⟨by rcases HX.out with a | a <;> simp [a], by rw [HE.out]; exact Mx.inv_sp HT.out⟩)
      go_wp2_with fail
      go_ret
      exact ⟨x, rfl, Z.out, HK.out⟩

end Go.Proofs.Ytdkdpklohfdpmaa
