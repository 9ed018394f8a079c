/- Contracts of package kara, third part: Mul; of rankmeresame.Sum; the closed fact. -/
import Derived.Test.YtlemhkceilkfhaaKaC2
namespace Go.Proofs.Ytlemhkceilkfhaa
open Go.ChangeShapes Go.WideShapes Go.ChangeAt Go.RowKit
set_option linter.unusedVariables false

/-- The answer is an error, and nothing else. -/
def MulFails (c : Nat) (w : World) (e : Ending) (w' : World) : Prop := e = .returned (.tuple #[.slice none 0 0, .int .i64 0, errOf c]) ∧ Kp w w'
/-- The answer is a row of N numbers, how many products it took, and no error. -/
def MulGives (N cnt : Nat) (P : List Int) (w : World) (e : Ending) (w' : World) : Prop :=
  ∃ A c, e = .returned (.tuple #[.slice A N c, .int .i64 (cnt : Int), .nilIface]) ∧ N ≤ c ∧ Lies w' A P ∧ Kp w w'
/-- An answer, whatever it is: with the error of its arguments. -/
def MulSome (c : Nat) (w : World) (e : Ending) (w' : World) : Prop := ∃ v k, e = .returned (.tuple #[v, .int .i64 k, errOf c]) ∧ Kp w w'

/-- How many products are needed for n numbers. -/
def kcnt (n : Nat) : Nat := if n = 1 then 1 else if n = 2 then 3 else if n = 4 then 9 else if n = 8 then 27 else 81
theorem pow_cnt {n : Nat} (h : Pow n) : ∃ t, t ≤ 4 ∧ n = 2 ^ t ∧ kcnt n = 3 ^ t := by
  rcases h with rfl | rfl | rfl | rfl | rfl
  · exact ⟨0, by decide, rfl, rfl⟩
  · exact ⟨1, by decide, rfl, rfl⟩
  · exact ⟨2, by decide, rfl, rfl⟩
  · exact ⟨3, by decide, rfl, rfl⟩
  · exact ⟨4, by decide, rfl, rfl⟩
theorem pow_le {n : Nat} (h : Pow n) : 1 ≤ n ∧ n ≤ 16 := by unfold Pow at h; omega

theorem allIn_bd {l : List Int} (h : AllIn l (-1000) 1000) : Ka.Bd 1000 l := fun k => by
  by_cases e : k < l.length
  · exact h k e
  · rw [Ka.at_out (by omega)]; decide

theorem kmul_bad (A B : Option Addr) (l m : List Int) (c d : Nat) (w : World) (ha : Lies w A l) (hb : Lies w B m) (h : kcode l m ≠ 0) :
    Calls Try.prog 15 #[.slice A l.length c, .slice B m.length d] w fun e w' => MulFails (kcode l m) w e w' := by
  have C := Lib.hid (kCheck_any A B l m c d w ha hb)
  unfold MulFails
  have e := errOf_ne _ h
  rw [e] at C ⊢
  clear e h ha hb
  generalize kcode l m = x at *
  generalize l.length = n at *
  generalize m.length = q at *
  go_enter Try.func15, Try.ntmps15
  go_wp2_with fail
  refine (C.out).mono ?_; rintro e w' ⟨rfl, rfl⟩
  go_wp2_with fail
  go_ret3
  exact ⟨rfl, Kp.rfl' _⟩

theorem kmul_ok (A B : Option Addr) (l m : List Int) (n N c d : Nat) (w : World) (ha : Lies w A l) (hb : Lies w B m) (hl : l.length = n) (hm : m.length = n) (hP : Pow n) (hN : N + 1 = 2 * n) (hc : n ≤ c) (hd : n ≤ d) (bl : AllIn l (-1000) 1000) (bm : AllIn m (-1000) 1000) :
    Calls Try.prog 15 #[.slice A n c, .slice B n d] w fun e w' => MulGives N (kcnt n) (Ka.prod n l m) w e w' := by
  have C := Lib.hid (by
    have h := kCheck_any A B l m c d w ha hb
    rw [kcode_ok (by rw [hl]; exact hP) (by rw [hl, hm]) bl bm, hl, hm, errOf_zero] at h
    exact h)
  have h16 := pow_le hP
  obtain ⟨t, ht, hn, hk⟩ := pow_cnt hP
  have M := Lib.hid (by
    have h := mult_any t ht n N hn hN A B l m c d 1000 w ha hb hl hm hc hd (allIn_bd bl) (allIn_bd bm) (by omega) (by decide)
    rw [← hk] at h
    exact h)
  generalize Ka.prod n l m = P at *
  generalize kcnt n = k at *
  clear ha hb hl hm bl bm hk hn hP ht hN hc hd
  go_enter Try.func15, Try.ntmps15
  go_wp2_with fail
  refine (C.out).mono ?_; rintro e w' ⟨rfl, rfl⟩
  go_wp2_with fail
  refine (M.out).mono ?_; rintro e w1 ⟨A1, c1, rfl, lc, ll, hk⟩
  have LL := Lib.hid ll
  have LC := Lib.hid lc
  have HK := Lib.hid hk
  clear ll lc hk
  go_wp2_with fail
  go_ret3
  exact ⟨A1, c1, rfl, LC.out, LL.out, HK.out⟩

theorem kmul_some (A B : Option Addr) (l m : List Int) (c d : Nat) (w : World) (ha : Lies w A l) (hb : Lies w B m) (hc : l.length ≤ c) (hd : m.length ≤ d) :
    Calls Try.prog 15 #[.slice A l.length c, .slice B m.length d] w fun e w' => MulSome (kcode l m) w e w' := by
  by_cases h : kcode l m = 0
  · obtain ⟨h1, h2, h3, h4⟩ := kcode_zero h
    have := pow_le h1
    rw [h, h2]
    exact (kmul_ok A B l m l.length (2 * l.length - 1) c d w ha hb rfl h2 h1 (by omega) hc (by omega) h3 h4).mono fun e w' ⟨A', c', he, _, _, hk⟩ => ⟨_, _, he, hk⟩
  · exact (kmul_bad A B l m c d w ha hb h).mono fun e w' ⟨he, hk⟩ => ⟨_, _, he, hk⟩

set_option maxHeartbeats 800000 in
theorem ssum_any (A : Option Addr) (l : List Int) (n c : Nat) (w : World) (hl : Lies w A l) (hn : l.length = n) (h100 : n ≤ 100) (hb : ∀ k, -1000000000 ≤ Ka.at' l k ∧ Ka.at' l k ≤ 1000000000) :
    Calls Try.prog 13 #[.slice A n c] w fun e w' => e = .returned (.int .i64 (Ka.sm n (Ka.at' l))) ∧ w = w' := by
  have HL := Lib.hid hl
  have HN := Lib.hid hn
  have HB := Lib.hid hb
  have BD := Lib.hid (fun k => Ka.sm_bound (n := k) (f := Ka.at' l) (M := 1000000000) (fun i _ => hb i))
  clear hl hn hb
  go_enter Try.func13, Try.ntmps13
  go_wp2_with fail
  go_loop [3, 4] (fun v i => ∃ k : Nat, k ≤ n ∧ v = .int .i64 (Ka.sm k (Ka.at' l)) ∧ i = .int .i64 (k : Int)) (fun _ i => n - (intOf i).toNat)
  case atStart => exact ⟨0, Nat.zero_le _, rfl, rfl⟩
  case round =>
    obtain ⟨k, hk, rfl, rfl⟩ := hrel
    by_cases hlt : k < n
    · obtain ⟨ad, rfl, _, hc⟩ := HL.out k (by rw [HN.out]; exact hlt)
      change World.cell? _ _ = some (.int .i64 (Ka.at' l k)) at hc
      have b1 := HB.out k
      have b2 := BD.out k
      have ST := Lib.hid (show Ka.sm (k + 1) (Ka.at' l) = Ka.sm k (Ka.at' l) + Ka.at' l k from rfl)
      obtain ⟨y, ey⟩ : ∃ y, y = Ka.sm (k + 1) (Ka.at' l) := ⟨_, rfl⟩
      rw [← ey] at ST
      have EY := Lib.hid ey
      clear ey
      generalize Ka.at' l k = x at *
      generalize Ka.sm k (Ka.at' l) = s at *
      have hw : IntKind.i64.wrap (s + x) = s + x := IntWalk.i64_in _ (by omega)
      clear b1 b2
      go_wp2_with fail
      go_round
      case rel => exact ⟨k + 1, by omega, by rw [← EY.out, ST.out], by go_num⟩
      case measure => simp [intOf]; omega
    · obtain rfl : k = n := by omega
      go_wp2_with fail
      go_ret
      exact ⟨rfl, rfl⟩


end Go.Proofs.Ytlemhkceilkfhaa
