/- Contracts of package crt: check, residue, join, Solve. -/
import Derived.Test.YteiblaajkakmdaaDoorBz
import Derived.Test.YteiblaajkakmdaaDoorMem
import Derived.Test.YteiblaajkakmdaaDoorCrtM
namespace Go.Proofs.YteiblaajkakmdaaDoor
open Go.ChangeShapes Go.WideShapes Go.ChangeAt Go.RowKit
set_option linter.unusedVariables false

theorem Drew.kp {w w' : World} (h : Drew w w') : Kp w w' := by
  obtain ⟨n, rfl⟩ := h
  exact (Kp.rfl' w).drewN n

abbrev errFull : Value := .iface 38 (.int .i64 4)
abbrev errShape : Value := .iface 38 (.int .i64 3)
abbrev errClash : Value := .iface 38 (.int .i64 6)

/-- One congruence is as it must be. -/
def Good (r m : Int) : Prop := 1 ≤ m ∧ m ≤ 100 ∧ 0 ≤ r ∧ r < m
/-- All congruences are as they must be. -/
def Fine (rs ms : List Int) : Prop := ∀ k, k < ms.length → Good (rs.getD k 0) (ms.getD k 0)

theorem check_full (A B : Option Addr) (rs ms : List Int) (c d : Nat) (w : World) (h : 5 < ms.length) :
    Calls Tryd.prog 12 #[.slice A rs.length c, .slice B ms.length d] w fun e w' => e = .returned errFull ∧ w = w' := by
  generalize ms.length = n at *
  have h' : (5 : Int) < n := by omega
  go_enter Tryd.func12, Tryd.ntmps12
  go_wp2
  go_ret
  exact ⟨rfl, rfl⟩

theorem check_shape (A B : Option Addr) (rs ms : List Int) (c d : Nat) (w : World) (h : ms.length ≤ 5) (h2 : rs.length ≠ ms.length) :
    Calls Tryd.prog 12 #[.slice A rs.length c, .slice B ms.length d] w fun e w' => e = .returned errShape ∧ w = w' := by
  generalize ms.length = n at *
  generalize rs.length = m at *
  have h' : ¬ (5 : Int) < n := by omega
  have h3 : ((m : Int) != (n : Int)) = true := by rw [bne_iff_ne]; omega
  clear h2
  go_enter Tryd.func12, Tryd.ntmps12
  go_wp2
  go_ret
  exact ⟨rfl, rfl⟩

/-- What check answers where the lists are of one length. -/
def CheckSays (rs ms : List Int) (e : Ending) : Prop := (Fine rs ms ∧ e = .returned .nilIface) ∨ (¬ Fine rs ms ∧ e = .returned errRange)

set_option maxHeartbeats 1600000 in
theorem check_any (A B : Option Addr) (rs ms : List Int) (c d : Nat) (w : World) (h : ms.length ≤ 5) (h2 : rs.length = ms.length) (ha : Lies w A rs) (hb : Lies w B ms) :
    Calls Tryd.prog 12 #[.slice A ms.length c, .slice B ms.length d] w fun e w' => CheckSays rs ms e ∧ w = w' := by
  have HA := Lib.hid ha
  have HB := Lib.hid hb
  have H2 := Lib.hid h2
  clear ha hb h2
  obtain ⟨n, hn⟩ : ∃ n, n = ms.length := ⟨_, rfl⟩
  rw [← hn] at h ⊢
  have HN := Lib.hid hn
  clear hn
  have h' : ¬ (5 : Int) < n := by omega
  go_enter Tryd.func12, Tryd.ntmps12
  go_wp2
  go_loop [19] (fun i => ∃ k : Nat, k ≤ n ∧ i = .int .i64 (k : Int) ∧ ∀ j, j < k → Good (rs.getD j 0) (ms.getD j 0)) (fun i => n - (intOf i).toNat)
  case atStart => exact ⟨0, Nat.zero_le _, rfl, fun j hj => absurd hj (by omega)⟩
  case round =>
    obtain ⟨k, hk, rfl, hg⟩ := hrel
    have HG := Lib.hid hg
    clear hg
    by_cases hlt : k < n
    · obtain ⟨ad, rfl, _, hc⟩ := HA.out k (by have := HN.out; have := H2.out; omega)
      obtain ⟨bd, rfl, _, hd⟩ := HB.out k (by have := HN.out; omega)
      obtain ⟨r, hr⟩ : ∃ r, r = rs.getD k 0 := ⟨_, rfl⟩
      obtain ⟨m, hm⟩ : ∃ m, m = ms.getD k 0 := ⟨_, rfl⟩
      rw [← hr] at hc
      rw [← hm] at hd
      have HF := Lib.hid (show Fine rs ms → Good r m from fun f => by rw [hr, hm]; exact f k (by have := HN.out; omega))
      have HS := Lib.hid (show Good r m → ∀ j, j < k + 1 → Good (rs.getD j 0) (ms.getD j 0) from fun g j hj => by
        by_cases e : j = k
        · subst e; rw [← hr, ← hm]; exact g
        · exact HG.out j (by omega))
      clear hr hm
      by_cases h1 : m < 1
      · have NF := Lib.hid (show ¬ Fine rs ms from fun f => by have := (HF.out f).1; omega)
        go_wp2
        go_ret
        exact ⟨.inr ⟨NF.out, rfl⟩, rfl⟩
      by_cases h2 : 100 < m
      · have NF := Lib.hid (show ¬ Fine rs ms from fun f => by have := (HF.out f).2.1; omega)
        go_wp2
        go_ret
        exact ⟨.inr ⟨NF.out, rfl⟩, rfl⟩
      by_cases h3 : r < 0
      · have NF := Lib.hid (show ¬ Fine rs ms from fun f => by have := (HF.out f).2.2.1; omega)
        go_wp2
        go_ret
        exact ⟨.inr ⟨NF.out, rfl⟩, rfl⟩
      by_cases h4 : m ≤ r
      · have NF := Lib.hid (show ¬ Fine rs ms from fun f => by have := (HF.out f).2.2.2; omega)
        go_wp2
        go_ret
        exact ⟨.inr ⟨NF.out, rfl⟩, rfl⟩
      have GG := Lib.hid (HS.out ⟨by omega, by omega, by omega, by omega⟩)
      go_wp2
      go_round
      case rel => exact ⟨k + 1, by omega, by go_num, GG.out⟩
      case measure => simp [intOf]; omega
    · have hF : Fine rs ms := fun j hj => HG.out j (by have := HN.out; omega)
      have HF := Lib.hid hF
      clear hF
      go_wp2
      go_ret
      exact ⟨.inl ⟨HF.out, rfl⟩, rfl⟩

theorem crtResidue_any (n m : Int) (w : World) (h1 : -1000000000000 ≤ n) (h2 : n ≤ 1000000000000) (h3 : 1 ≤ m) (h4 : m ≤ 1000000) :
    Calls Tryd.prog 21 #[.int .i64 n, .int .i64 m] w fun e w' => e = .returned (.int .i64 (n % m)) ∧ w = w' := by
  obtain ⟨f1, f2⟩ := Num.tmod_fix n m (by omega)
  obtain ⟨b2, b1⟩ := Num.tmod_bound n m (by omega)
  have F1 := Lib.hid f1
  have F2 := Lib.hid f2
  clear f1 f2
  by_cases h : n.tmod m < 0
  · go_enter Tryd.func21, Tryd.ntmps21
    go_wp2
    go_ret
    exact ⟨ret_int (F1.out h), rfl⟩
  · have h' : 0 ≤ n.tmod m := by omega
    clear h
    go_enter Tryd.func21, Tryd.ntmps21
    go_wp2
    go_ret
    exact ⟨ret_int (F2.out h'), rfl⟩

theorem wrap64_id {n : Int} (h : -1000000000000000000 ≤ n ∧ n ≤ 1000000000000000000) : wrap64 n = n := by unfold wrap64; omega

/-- What join answers: the two together, or that they clash. -/
def JoinSays (S : Int × Int → Prop) (r m step : Int) (w : World) (e : Ending) (w' : World) : Prop :=
  ((∃ x' s' : Int, CrtM.Sol (CrtM.More S (r, m)) x' s' ∧ s' ≤ step * 100 ∧ e = .returned (.tuple #[.int .i64 x', .int .i64 s', .nilIface])) ∨
    (CrtM.NoSol (CrtM.More S (r, m)) ∧ e = .returned (.tuple #[.int .i64 0, .int .i64 0, errClash]))) ∧ Kp w w'

set_option maxHeartbeats 1600000 in
theorem join_any (S : Int × Int → Prop) (x step r m : Int) (w : World) (hs : CrtM.Sol S x step) (hb : step ≤ 100000000) (hg : Good r m) :
    Calls Tryd.prog 13 #[.int .i64 x, .int .i64 step, .int .i64 r, .int .i64 m] w fun e w' => JoinSays S r m step w e w' := by
  have hs1 := hs.1.1
  have hx0 := hs.2.1
  have hx1 := hs.2.2.1
  obtain ⟨m1, m2, r0, r1⟩ := hg
  have HS := Lib.hid hs
  clear hs
  have e0 := Int.emod_nonneg step (show m ≠ 0 by omega)
  have e1 := Int.emod_lt_of_pos step (show 0 < m by omega)
  obtain ⟨a, ha⟩ : ∃ a, a = step % m := ⟨_, rfl⟩
  have HA := Lib.hid ha
  go_enter Tryd.func13, Tryd.ntmps13
  go_wp2_with fail
  rw [← ha]
  rw [← ha] at e0 e1
  clear ha
  have hgp := Num.gcd_pos a m (by omega)
  have hgs := Num.gcd_small a m (by omega)
  refine (bezout_in a m _ (by omega) (by omega) (by omega) (by omega) (by omega)).mono ?_
  rintro e w1 ⟨inv, y, hbz, rfl, hd1⟩
  obtain ⟨z1, z2, _⟩ := hbz
  obtain ⟨z2, z3⟩ := z2 (by omega)
  have hdm : (Int.gcd a m : Int) ∣ m := Int.gcd_dvd_right a m
  have hms := Num.div_small m _ hgp (by rw [Int.gcd_eq_natAbs_gcd_natAbs]; exact Nat.gcd_dvd_right _ _) (by omega) (by omega) (by omega)
  have em : ((m.natAbs / Int.gcd a m : Nat) : Int) = m / (Int.gcd a m : Int) := by
    rw [Int.natCast_ediv]; congr 1; omega
  rw [em] at z3
  have em' : ((m.natAbs : Nat) : Int) = m := by omega
  rw [em'] at hms
  clear em em'
  have GE := Lib.hid (show (Int.gcd a m : Int) = (Int.gcd step m : Int) by rw [HA.out, CrtM.gcd_mod])
  obtain ⟨g, hge⟩ : ∃ g : Int, g = (Int.gcd a m : Int) := ⟨_, rfl⟩
  rw [← hge] at z1 z3 hms hdm GE ⊢
  have g1 : 1 ≤ g := by omega
  have g2 : g ≤ 100 := by omega
  have Z1 := Lib.hid z1
  have HDM := Lib.hid hdm
  clear z1 hdm hge hgp hgs
  go_wp2_with fail
  refine (crtResidue_any (r - x) m _ (by omega) (by omega) (by omega) (by omega)).mono ?_; rintro e w2 ⟨rfl, rfl⟩
  have t0 := Int.emod_nonneg (r - x) (show m ≠ 0 by omega)
  have t1 := Int.emod_lt_of_pos (r - x) (show 0 < m by omega)
  obtain ⟨t, ht⟩ : ∃ t, t = (r - x) % m := ⟨_, rfl⟩
  rw [← ht] at t0 t1 ⊢
  have HT := Lib.hid ht
  clear ht
  by_cases hdv : g ∣ t
  · have hz : t % g = 0 := Int.emod_eq_zero_of_dvd hdv
    have b1 : (t % g != 0) = false := by rw [hz]; rfl
    clear hz
    have t2 : 0 ≤ t / g := Int.ediv_nonneg (by omega) (by omega)
    have t3 : t / g ≤ t := Int.ediv_le_self g (by omega)
    have t4 : m / g ≤ m := Int.ediv_le_self g (by omega)
    have p0 : 0 ≤ t / g * inv := Int.mul_nonneg t2 z2
    have p1 : t / g * inv ≤ 100 * 100 := Int.mul_le_mul (by omega) (by omega) z2 (by omega)
    have hw : wrap64 (t / g * inv) = t / g * inv := wrap64_id (by omega)
    obtain ⟨n, hn⟩ : ∃ n, n = t / g * inv % (m / g) := ⟨_, rfl⟩
    have hE : (wrap64 (t / g * inv)).tmod (m / g) = n := by
      rw [hw, hn]; exact Int.tmod_eq_emod_of_nonneg p0
    have n0 : 0 ≤ n := by rw [hn]; exact Int.emod_nonneg _ (by omega)
    have n1 : n < m / g := by rw [hn]; exact Int.emod_lt_of_pos _ (by omega)
    have q0 : 0 ≤ step * n := Int.mul_nonneg (by omega) n0
    have q1 : step * n ≤ 100000000 * 100 := Int.mul_le_mul hb (by omega) n0 (by omega)
    have q2 : 0 ≤ step * (m / g) := Int.mul_nonneg (by omega) (by omega)
    have q3 : step * (m / g) ≤ step * 100 := Int.mul_le_mul_of_nonneg_left (by omega) (by omega)
    have HE := Lib.hid hE
    have HN := Lib.hid hn
    clear hE hn hw p0 p1 t2 t3
    go_wp2_with fail
    go_quiet (fail)
    rw [HE.out]
    go_wp2_with fail
    go_quiet (fail)
    go_wp2_with fail
    go_ret3
    refine ⟨.inl ⟨_, _, ?_, q3, rfl⟩, (hd1.kp.drewN _).drewN _⟩
    have hj := CrtM.join S x step r m inv y HS.out (by omega) r0 r1 (by rw [← HA.out, ← GE.out]; exact Z1.out) (by rw [← GE.out, ← HT.out]; exact hdv)
    rw [← GE.out, ← HT.out, ← HN.out] at hj
    exact hj
  · have hz : ¬ t % g = 0 := fun h => hdv (Int.dvd_of_emod_eq_zero h)
    have b1 : (t % g != 0) = true := by rw [bne_iff_ne]; exact hz
    have ND := Lib.hid hdv
    clear hz hdv
    go_wp2_with fail
    go_ret3
    refine ⟨.inr ⟨CrtM.clash S x step r m HS.out.1 HS.out.2.2.2 (by omega) fun h => ND.out ?_, rfl⟩, hd1.kp⟩
    rw [HT.out, GE.out]
    have := Int.emod_add_mul_ediv (r - x) m
    have e : (r - x) % m = (r - x) - m * ((r - x) / m) := by omega
    rw [e]
    exact Int.dvd_sub h (Int.dvd_mul_of_dvd_left (by rw [← GE.out]; exact HDM.out))

/-- The first n congruences. -/
def Pairs (rs ms : List Int) (n : Nat) : Int × Int → Prop := fun p => ∃ j, j < n ∧ p = (rs.getD j 0, ms.getD j 0)
theorem pairs_succ (rs ms : List Int) (k : Nat) (p : Int × Int) : CrtM.More (Pairs rs ms k) (rs.getD k 0, ms.getD k 0) p ↔ Pairs rs ms (k + 1) p := by
  constructor
  · rintro (⟨j, hj, rfl⟩ | rfl)
    · exact ⟨j, by omega, rfl⟩
    · exact ⟨k, by omega, rfl⟩
  · rintro ⟨j, hj, rfl⟩
    by_cases e : j = k
    · subst e; exact .inr rfl
    · exact .inl ⟨j, by omega, rfl⟩
theorem pairs_none (rs ms : List Int) (p : Int × Int) : ¬ Pairs rs ms 0 p := fun ⟨j, hj, _⟩ => absurd hj (by omega)
theorem pairs_mono (rs ms : List Int) (k n : Nat) (h : k ≤ n) (p : Int × Int) : Pairs rs ms k p → Pairs rs ms n p := fun ⟨j, hj, e⟩ => ⟨j, by omega, e⟩

/-- The document's answer: what is wrong (0: nothing), the least solution, the step. -/
def Ans (rs ms : List Int) (c x s : Int) : Prop :=
  (5 < ms.length ∧ c = 4 ∧ x = 0 ∧ s = 0) ∨
  (ms.length ≤ 5 ∧ rs.length ≠ ms.length ∧ c = 3 ∧ x = 0 ∧ s = 0) ∨
  (ms.length ≤ 5 ∧ rs.length = ms.length ∧ ¬ Fine rs ms ∧ c = 1 ∧ x = 0 ∧ s = 0) ∨
  (ms.length ≤ 5 ∧ rs.length = ms.length ∧ Fine rs ms ∧ CrtM.NoSol (Pairs rs ms ms.length) ∧ c = 6 ∧ x = 0 ∧ s = 0) ∨
  (ms.length ≤ 5 ∧ rs.length = ms.length ∧ Fine rs ms ∧ CrtM.Sol (Pairs rs ms ms.length) x s ∧ s ≤ 10000000000 ∧ c = 0)

theorem ans_one (rs ms : List Int) (c x s c' x' s' : Int) (h : Ans rs ms c x s) (h' : Ans rs ms c' x' s') : c = c' ∧ x = x' ∧ s = s' := by
  rcases h with ⟨a, rfl, rfl, rfl⟩ | ⟨a, b, rfl, rfl, rfl⟩ | ⟨a, b, f, rfl, rfl, rfl⟩ | ⟨a, b, f, n, rfl, rfl, rfl⟩ | ⟨a, b, f, n, l, rfl⟩ <;>
  rcases h' with ⟨a', rfl, rfl, rfl⟩ | ⟨a', b', rfl, rfl, rfl⟩ | ⟨a', b', f', rfl, rfl, rfl⟩ | ⟨a', b', f', n', rfl, rfl, rfl⟩ | ⟨a', b', f', n', l', rfl⟩ <;>
  first
  | exact ⟨rfl, rfl, rfl⟩
  | omega
  | exact absurd ‹Fine rs ms› ‹¬ Fine rs ms›
  | exact (CrtM.sol_not ‹CrtM.Sol _ _ _› ‹CrtM.NoSol _›).elim
  | exact ⟨rfl, CrtM.sol_one _ _ _ _ _ n n'⟩

def errOf (c : Int) : Value := if c = 0 then .nilIface else .iface 38 (.int .i64 c)
theorem errOf_zero : errOf 0 = .nilIface := rfl
theorem errOf_ne (c : Int) (h : c ≠ 0) : errOf c = .iface 38 (.int .i64 c) := if_neg h
def SolveSays (rs ms : List Int) (w : World) (e : Ending) (w' : World) : Prop :=
  (∃ c x s : Int, Ans rs ms c x s ∧ e = .returned (.tuple #[.int .i64 x, .int .i64 s, errOf c])) ∧ Kp w w'

theorem pow_small (k : Nat) (h : k ≤ 4) : (100 : Int) ^ k ≤ 100000000 := by
  have : k = 0 ∨ k = 1 ∨ k = 2 ∨ k = 3 ∨ k = 4 := by omega
  rcases this with rfl | rfl | rfl | rfl | rfl <;> decide
theorem pow_small' (k : Nat) (h : k ≤ 5) : (100 : Int) ^ k ≤ 10000000000 := by
  have : k = 0 ∨ k = 1 ∨ k = 2 ∨ k = 3 ∨ k = 4 ∨ k = 5 := by omega
  rcases this with rfl | rfl | rfl | rfl | rfl | rfl <;> decide

theorem solve_full (A B : Option Addr) (rs ms : List Int) (c d : Nat) (w : World) (h : 5 < ms.length) :
    Calls Tryd.prog 6 #[.slice A rs.length c, .slice B ms.length d] w fun e w' => SolveSays rs ms w e w' := by
  have H := Lib.hid h
  clear h
  go_enter Tryd.func6, Tryd.ntmps6
  go_wp2_with fail
  refine (check_full A B rs ms c d _ H.out).mono ?_; rintro e w' ⟨rfl, rfl⟩
  go_wp2_with fail
  go_ret3
  exact ⟨⟨4, 0, 0, .inl ⟨H.out, rfl, rfl, rfl⟩, rfl⟩, Kp.rfl' _⟩

theorem solve_shape (A B : Option Addr) (rs ms : List Int) (c d : Nat) (w : World) (h : ms.length ≤ 5) (h2 : rs.length ≠ ms.length) :
    Calls Tryd.prog 6 #[.slice A rs.length c, .slice B ms.length d] w fun e w' => SolveSays rs ms w e w' := by
  have H := Lib.hid h
  have H2 := Lib.hid h2
  clear h h2
  go_enter Tryd.func6, Tryd.ntmps6
  go_wp2_with fail
  refine (check_shape A B rs ms c d _ H.out H2.out).mono ?_; rintro e w' ⟨rfl, rfl⟩
  go_wp2_with fail
  go_ret3
  exact ⟨⟨3, 0, 0, .inr (.inl ⟨H.out, H2.out, rfl, rfl, rfl⟩), rfl⟩, Kp.rfl' _⟩

set_option maxHeartbeats 1600000 in
theorem solve_len (A B : Option Addr) (rs ms : List Int) (c d : Nat) (w : World) (h : ms.length ≤ 5) (h2 : rs.length = ms.length) (ha : Lies w A rs) (hb : Lies w B ms) :
    Calls Tryd.prog 6 #[.slice A ms.length c, .slice B ms.length d] w fun e w' => SolveSays rs ms w e w' := by
  have HA := Lib.hid ha
  have HB := Lib.hid hb
  have H := Lib.hid h
  have H2 := Lib.hid h2
  clear ha hb h2 h
  go_enter Tryd.func6, Tryd.ntmps6
  go_wp2_with fail
  refine (check_any A B rs ms c d _ H.out H2.out HA.out HB.out).mono ?_
  rintro e w' ⟨⟨f, rfl⟩ | ⟨nf, rfl⟩, rfl⟩
  · have F := Lib.hid f
    clear f
    obtain ⟨n, hn⟩ : ∃ n, n = ms.length := ⟨_, rfl⟩
    have h5 : n ≤ 5 := by have := H.out; omega
    rw [← hn]
    have HN := Lib.hid hn
    clear hn
    go_wp2_with fail
    go_loopw [4, 5, 18] (fun x s i wr => ∃ (k : Nat) (X S : Int), k ≤ n ∧ i = .int .i64 (k : Int) ∧ x = .int .i64 X ∧ s = .int .i64 S ∧ CrtM.Sol (Pairs rs ms k) X S ∧ S ≤ (100 : Int) ^ k ∧ Kp w wr) (fun _ _ i _ => n - (intOf i).toNat)
    case atStart => exact ⟨0, 0, 1, Nat.zero_le _, rfl, rfl, rfl, CrtM.sol_none _ (pairs_none rs ms), by decide, Kp.rfl' _⟩
    case round =>
      obtain ⟨k, X, S, hk, rfl, rfl, rfl, hsol, hpw, hkp⟩ := hrel
      have HS := Lib.hid hsol
      have HK := Lib.hid hkp
      have HP := Lib.hid hpw
      clear hsol hkp hpw
      by_cases hlt : k < n
      · obtain ⟨ad, rfl, _, hc⟩ := (HA.out.keep HK.out) k (by have := HN.out; have := H2.out; omega)
        obtain ⟨bd, rfl, _, hd⟩ := (HB.out.keep HK.out) k (by have := HN.out; omega)
        have hgd := F.out k (by have := HN.out; omega)
        obtain ⟨r, hr⟩ : ∃ r, r = rs.getD k 0 := ⟨_, rfl⟩
        obtain ⟨m, hm⟩ : ∃ m, m = ms.getD k 0 := ⟨_, rfl⟩
        rw [← hr] at hc hgd
        rw [← hm] at hd hgd
        have HG := Lib.hid hgd
        have HM := Lib.hid (show ∀ p, CrtM.More (Pairs rs ms k) (r, m) p ↔ Pairs rs ms (k + 1) p from fun p => by rw [hr, hm]; exact pairs_succ rs ms k p)
        clear hr hm hgd
        go_wp2_with fail
        refine (join_any (Pairs rs ms k) X S r m _ HS.out (by have := HP.out; have := pow_small k (by omega); omega) HG.out).mono ?_
        rintro e w1 ⟨⟨x', s', hs', hb', rfl⟩ | ⟨hno, rfl⟩, hk1⟩
        · have HS' := Lib.hid (CrtM.sol_of _ _ HM.out _ _ hs')
          have HB' := Lib.hid (show s' ≤ (100 : Int) ^ (k + 1) by have := HP.out; rw [Int.pow_succ]; omega)
          have HK1 := Lib.hid hk1
          clear hs' hb' hk1
          go_wp2_with fail
          go_roundw
          case rel => exact ⟨k + 1, x', s', by omega, by go_num, rfl, rfl, HS'.out, HB'.out, HK.out.trans HK1.out⟩
          case measure => simp [intOf]; omega
        · have HNO := Lib.hid hno
          have HK1 := Lib.hid hk1
          clear hno hk1
          go_wp2_with fail
          go_ret3
          exact ⟨⟨6, 0, 0, .inr (.inr (.inr (.inl ⟨H.out, H2.out, F.out, CrtM.noSol_of _ _ (fun p hp => pairs_mono rs ms (k + 1) _ (by have := HN.out; omega) p ((HM.out p).1 hp)) HNO.out, rfl, rfl, rfl⟩))), rfl⟩, HK.out.trans HK1.out⟩
      · obtain rfl : k = n := by omega
        go_wp2_with fail
        go_ret3
        refine ⟨⟨0, X, S, .inr (.inr (.inr (.inr ⟨H.out, H2.out, F.out, ?_, ?_, rfl⟩))), rfl⟩, HK.out⟩
        · rw [← HN.out]; exact HS.out
        · exact Int.le_trans HP.out (pow_small' k h5)
  · have NF := Lib.hid nf
    clear nf
    go_wp2_with fail
    go_ret3
    exact ⟨⟨1, 0, 0, .inr (.inr (.inl ⟨H.out, H2.out, NF.out, rfl, rfl, rfl⟩)), rfl⟩, Kp.rfl' _⟩

theorem solve_any (A B : Option Addr) (rs ms : List Int) (c d : Nat) (w : World) (ha : Lies w A rs) (hb : Lies w B ms) :
    Calls Tryd.prog 6 #[.slice A rs.length c, .slice B ms.length d] w fun e w' => SolveSays rs ms w e w' := by
  by_cases h : 5 < ms.length
  · exact solve_full A B rs ms c d w h
  · by_cases h2 : rs.length = ms.length
    · rw [h2]; exact solve_len A B rs ms c d w (by omega) h2 ha hb
    · exact solve_shape A B rs ms c d w (by omega) h2

end Go.Proofs.YteiblaajkakmdaaDoor
