/- Contract of rankmeresame.Sum: for all packages. -/
import Derived.Test.YtgfhmffkdhfoeaaRowG
import Derived.Test.YtgfhmffkdhfoeaaKaM
namespace Go.Proofs.Ytgfhmffkdhfoeaa
open Go.ChangeShapes Go.WideShapes Go.ChangeAt Go.RowKit
set_option linter.unusedVariables false

set_option maxHeartbeats 800000 in
theorem rsum_any (A : Option Addr) (l : List Int) (n c : Nat) (w : World) (hl : Lies w A l) (hn : l.length = n) (h100 : n ≤ 100) (hb : ∀ k, -1000000000 ≤ Ka.at' l k ∧ Ka.at' l k ≤ 1000000000) :
    Calls Try.prog 10 #[.slice A n c] w fun e w' => e = .returned (.int .i64 (Ka.sm n (Ka.at' l))) ∧ w = w' := by
  have HL := Lib.hid hl
  have HN := Lib.hid hn
  have HB := Lib.hid hb
  have BD := Lib.hid (fun k => Ka.sm_bound (n := k) (f := Ka.at' l) (M := 1000000000) (fun i _ => hb i))
  clear hl hn hb
  go_enter Try.func10, Try.ntmps10
  go_wp2_with fail
  go_loop [3, 4] (fun v i => ∃ k : Nat, k ≤ n ∧ v = .int .i64 (Ka.sm k (Ka.at' l)) ∧ i = .int .i64 (k : Int)) (fun _ i => n - (intOf i).toNat)
  case atStart => exact ⟨0, Nat.zero_le _, rfl, rfl⟩
  case round =>
    obtain ⟨k, hk, rfl, rfl⟩ := hrel
    by_cases hlt : k < n
    · obtain ⟨ad, rfl, _, hc⟩ := HL.out k (by rw [HN.out]; exact hlt)
      change World.cell? _ _ = some (.int .i64 (Ka.at' l k)) at hc
      have b1 := HB.out k
      have b2 := BD.out k
      have ST := Lib.hid (show Ka.sm (k + 1) (Ka.at' l) = Ka.sm k (Ka.at' l) + Ka.at' l k from rfl)
      obtain ⟨y, ey⟩ : ∃ y, y = Ka.sm (k + 1) (Ka.at' l) := ⟨_, rfl⟩
      rw [← ey] at ST
      have EY := Lib.hid ey
      clear ey
      generalize Ka.at' l k = x at *
      generalize Ka.sm k (Ka.at' l) = s at *
      have hw : IntKind.i64.wrap (s + x) = s + x := IntWalk.i64_in _ (by omega)
      clear b1 b2
      go_wp2_with fail
      go_round
      case rel => exact ⟨k + 1, by omega, by rw [← EY.out, ST.out], by go_num⟩
      case measure => simp [intOf]; omega
    · obtain rfl : k = n := by omega
      go_wp2_with fail
      go_ret
      exact ⟨rfl, rfl⟩

end Go.Proofs.Ytgfhmffkdhfoeaa
