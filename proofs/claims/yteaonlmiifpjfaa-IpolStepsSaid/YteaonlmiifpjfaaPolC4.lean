/- Contracts of package poly, fourth part: monic, Div, Gcd, At. -/
import Derived.Test.YteaonlmiifpjfaaPolC3
namespace Go.Proofs.Yteaonlmiifpjfaa
open Go.ChangeShapes Go.WideShapes Go.ChangeAt Go.RowKit
set_option linter.unusedVariables false

theorem Lies.trim {w : World} {A : Option Addr} {p : List Fp.F} (h : Lies w A (Pol.vals p)) : Lies w A (Pol.vals (Pol.trim p)) := by
  rw [Pol.trim_take, Pol.vals_take]; exact h.take _

/-- The last one alone. -/
theorem lies_last {w : World} {ad : Addr} {p : List Fp.F} {k : Nat} (hk : p.length = k + 1) (h : Lies w (some ad) (Pol.vals p)) : Lies w (some (ad.add k)) (Pol.vals [Pol.top p]) := fun j hj => by
  have hj0 : j = 0 := by simp [Pol.vals] at hj; exact hj
  subst hj0
  obtain ⟨ad', e, h1, h2⟩ := h k (by rw [Pol.len_vals]; omega)
  injection e with e
  subst e
  refine ⟨_, rfl, by rw [block_add]; exact h1, ?_⟩
  rw [add_add, Nat.add_zero, h2, Pol.vals_at, Pol.vals_at, Pol.co_zero, Pol.top, hk]
  rfl

/-- The answer is an error, and no rows. -/
def Fails2 (c : Nat) (w : World) (e : Ending) (w' : World) : Prop := e = .returned (.tuple #[.slice none 0 0, .slice none 0 0, errOf c]) ∧ Kp w w'

/-- What is wrong with a row and a place. -/
def atCode (l : List Int) (x : Int) : Nat := if Pol.code l = 0 then (if 0 ≤ x ∧ x ≤ 9972 then 0 else 1) else Pol.code l

theorem at_bad (A : Option Addr) (l : List Int) (c : Nat) (x : Int) (w : World) (ha : Lies w A l) (h : atCode l x ≠ 0) :
    Calls Try.prog 8 #[.slice A l.length c, .int .i64 x] w fun e w' => e = .returned (.tuple #[.int .i64 0, errOf (atCode l x)]) ∧ w = w' := by
  have C := Lib.hid (check_any A l c w ha)
  have hs := Pol.code_some l
  unfold atCode at *
  clear ha
  generalize Pol.code l = y at *
  generalize l.length = n at *
  rcases hs with rfl | rfl | rfl
  · by_cases hx : 0 ≤ x ∧ x ≤ 9972
    · rw [if_pos rfl, if_pos hx] at h; exact absurd rfl h
    · rw [if_pos rfl, if_neg hx]
      clear h
      by_cases h0 : x < 0
      · clear hx
        go_enter Try.func8, Try.ntmps8
        go_wp2_with fail
        refine (C.out).mono ?_; rintro e w' ⟨rfl, rfl⟩
        rw [show errOf 0 = .nilIface from rfl]
        go_wp2_with fail
        go_ret2
        exact ⟨rfl, rfl⟩
      · have h1 : 9973 ≤ x := by omega
        clear hx
        go_enter Try.func8, Try.ntmps8
        go_wp2_with fail
        refine (C.out).mono ?_; rintro e w' ⟨rfl, rfl⟩
        rw [show errOf 0 = .nilIface from rfl]
        go_wp2_with fail
        go_ret2
        exact ⟨rfl, rfl⟩
  · rw [if_neg (by decide)]
    go_enter Try.func8, Try.ntmps8
    go_wp2_with fail
    refine (C.out).mono ?_; rintro e w' ⟨rfl, rfl⟩
    rw [show errOf 1 = .iface 40 (.int .i64 1) from rfl]
    go_wp2_with fail
    go_ret2
    exact ⟨rfl, rfl⟩
  · rw [if_neg (by decide)]
    go_enter Try.func8, Try.ntmps8
    go_wp2_with fail
    refine (C.out).mono ?_; rintro e w' ⟨rfl, rfl⟩
    rw [show errOf 4 = .iface 40 (.int .i64 4) from rfl]
    go_wp2_with fail
    go_ret2
    exact ⟨rfl, rfl⟩

theorem at_ok (A : Option Addr) (p : List Fp.F) (c : Nat) (x : Fp.F) (w : World) (ha : Lies w A (Pol.vals p)) (hp : p.length ≤ 100) (hc : Pol.code (Pol.vals p) = 0) :
    Calls Try.prog 8 #[.slice A p.length c, el x] w fun e w' => e = .returned (.tuple #[el (Pol.ev p x), .nilIface]) ∧ w = w' := by
  have C := Lib.hid (check_any A (Pol.vals p) c w ha)
  rw [Pol.len_vals, hc, show errOf 0 = .nilIface from rfl] at C
  have HA := Lib.hid ha
  obtain ⟨n, hn⟩ : ∃ n, n = p.length := ⟨_, rfl⟩
  rw [← hn] at hp C ⊢
  have HN := Lib.hid hn
  have x1 := Fp.val_bound x
  have ST := Lib.hid (fun (v a : Fp.F) => Pol.val_horner v x a)
  have PB := Lib.hid (fun (v : Fp.F) => prod_bound v x)
  have hxv : el x = .int .i64 (x.val : Int) := rfl
  clear ha hn hc
  rw [hxv]
  generalize (x.val : Int) = xv at *
  clear hxv
  go_enter Try.func8, Try.ntmps8
  go_wp2_with fail
  refine (C.out).mono ?_; rintro e w' ⟨rfl, rfl⟩
  go_wp2_with fail
  go_loop [7, 8] (fun v i => ∃ j : Nat, j ≤ n ∧ i = .int .i64 ((j : Int) - 1) ∧ v = el (Pol.ev (p.drop j) x)) (fun _ i => (intOf i + 1).toNat)
  case atStart => exact ⟨n, Nat.le_refl _, by go_num, by rw [HN.out, List.drop_length]; rfl⟩
  case round =>
    obtain ⟨j, hj, rfl, rfl⟩ := hrel
    cases j with
    | zero =>
      have ei : ((0 : Nat) : Int) - 1 = -1 := by decide
      rw [ei, List.drop_zero]
      go_wp2_with fail
      go_ret2
      exact ⟨rfl, rfl⟩
    | succ j =>
      have ei : ((j + 1 : Nat) : Int) - 1 = (j : Int) := by omega
      rw [ei]
      obtain ⟨ad, rfl, _, hcell⟩ := HA.out j (by rw [Pol.len_vals, ← HN.out]; omega)
      rw [Pol.vals_at] at hcell
      have E := Lib.hid (Pol.ev_drop p j (by have := HN.out; omega) x)
      obtain ⟨v, hv⟩ : ∃ v, v = Pol.ev (p.drop (j + 1)) x := ⟨_, rfl⟩
      obtain ⟨a, ha⟩ : ∃ a, a = Pol.co p j := ⟨_, rfl⟩
      rw [← hv]
      rw [← ha] at hcell
      rw [← hv, ← ha] at E
      have HV := Lib.hid (ST.out v a)
      obtain ⟨p1, p2⟩ := PB.out v
      have v1 := Fp.val_bound v
      have a1 := Fp.val_bound a
      clear hv ha
      unfold el
      generalize (v.val : Int) = vv at *
      generalize (a.val : Int) = av at *
      go_wp2_with fail
      go_round
      case rel => exact ⟨j, by omega, by go_num, by rw [HV.out, ← E.out]⟩
      case measure => simp [intOf]

end Go.Proofs.Yteaonlmiifpjfaa
