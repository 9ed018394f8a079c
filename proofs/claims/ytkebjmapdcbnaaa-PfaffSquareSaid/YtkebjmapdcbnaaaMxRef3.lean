/- Contracts of the document's answer on matrices, third part: All, Matrix, Field. For all packages. -/
import Derived.Test.YtkebjmapdcbnaaaMxRef2
namespace Go.Proofs.Ytkebjmapdcbnaaa
open Go.ChangeShapes Go.WideShapes Go.ChangeAt Go.RowKit
set_option linter.unusedVariables false

/-- The first k rows have no fault. -/
def rowsUp (lo hi : Int) (m : List (List Int)) (k : Nat) : Prop := Mx.rows lo hi (m.getD 0 []).length m = Mx.rows lo hi (m.getD 0 []).length (m.drop k)
theorem rowsUp_go {lo hi : Int} {m : List (List Int)} {k : Nat} (hk : k < m.length) (h : rowsUp lo hi m k) (h0 : Mx.rcode lo hi (m.getD 0 []).length (m.getD k []) = 0) : rowsUp lo hi m (k + 1) := by
  unfold rowsUp at *
  rw [h, Mx.rows_drop hk, if_pos h0]

set_option maxRecDepth 100000 in
set_option maxHeartbeats 3200000 in
theorem rMatrix_main (A : Option Addr) (m : List (List Int)) (n d q most : Nat) (lo hi : Int) (w : World) (ha : LiesM w A m) (hn : m.length = n) (hq : (m.getD 0 []).length = q) (h1 : 0 < n) (h2 : n ≤ most) (h3 : 0 < q) (h4 : q ≤ most) (hmo : most ≤ 1000) :
    Calls Try.prog 29 #[.slice A n d, .int .i64 (most : Int), .int .i64 lo, .int .i64 hi] w fun e w' => e = .returned (.int .i64 (Mx.mcode most lo hi m : Int)) ∧ Drew w w' := by
  have hm : Mx.mcode most lo hi m = Mx.rows lo hi (m.getD 0 []).length m := by
    unfold Mx.mcode
    rw [if_neg (by omega), if_neg (by omega)]
  rw [hm]
  obtain ⟨v, hv⟩ : ∃ v, v = Mx.rows lo hi (m.getD 0 []).length m := ⟨_, rfl⟩
  have hg0 : rowsUp lo hi m 0 := by unfold rowsUp; rw [List.drop_zero]
  have RNG := Lib.hid (fun (k : Nat) (hk : k < n) (hg : rowsUp lo hi m k) (h0 : Mx.rcode lo hi q (m.getD k []) ≠ 0) => show v = Mx.rcode lo hi q (m.getD k []) by
    unfold rowsUp at hg
    rw [hv, hg, Mx.rows_drop (by omega), hq, if_neg h0])
  have OKS := Lib.hid (fun (hg : rowsUp lo hi m n) => show v = 0 by
    unfold rowsUp at hg
    rw [hv, hg, Mx.rows_end (by omega)])
  have STP := Lib.hid (fun (k : Nat) (hk : k < n) (hg : rowsUp lo hi m k) (h0 : Mx.rcode lo hi q (m.getD k []) = 0) => rowsUp_go (by omega) hg (by rw [hq]; exact h0))
  rw [← hv]
  obtain ⟨ad, A0, d0, rfl, hlt0, hc0, _, hr0⟩ := ha 0 (by omega)
  rw [hq] at hc0
  rw [add_zero'] at hc0
  have HA := Lib.hid ha
  have HN := Lib.hid hn
  have G0 := Lib.hid hg0
  have C0 := Lib.hid hc0
  have e0 : ((n : Int) == 0) = false := by rw [beq_eq_false_iff_ne]; omega
  have e1 : ((q : Int) == 0) = false := by rw [beq_eq_false_iff_ne]; omega
  have e2 : ¬ (most : Int) < n := by omega
  have e3 : ¬ (most : Int) < q := by omega
  clear ha hn hg0 hm hv hq hr0
  go_enter Try.func29, Try.ntmps29
  go_wp2_with fail
  clear hc0
  go_loopw [9] (fun i wr => ∃ k : Nat, k ≤ n ∧ i = .int .i64 (k : Int) ∧ rowsUp lo hi m k ∧ Drew w wr) (fun i _ => n - (intOf i).toNat)
  case atStart => exact ⟨0, Nat.zero_le _, rfl, G0.out, Drew.refl _⟩
  case round =>
    obtain ⟨k, hk, rfl, hg, hdr⟩ := hrel
    have HG := Lib.hid hg
    have HD := Lib.hid hdr
    have hc0 := (hdr.kp.cell (p := ad) hlt0).trans C0.out
    by_cases hlt : k < n
    · obtain ⟨ad', A1, d1, ea, _, hc1, _, hr1⟩ := (HA.out.keep hdr.kp) k (by have := HN.out; omega)
      obtain rfl := Option.some.inj ea
      have AL := Lib.hid (fun (wx : World) (hx : Kp wr wx) (hl : (m.getD k []).length ≤ 1000000) => all_any A1 (m.getD k []) d1 lo hi wx (hr1.keep hx) hl)
      obtain ⟨p, hp⟩ : ∃ p, p = (m.getD k []).length := ⟨_, rfl⟩
      rw [← hp] at hc1 AL
      clear hg hdr hr1
      by_cases hpq : p = q
      · subst hpq
        have e4 : ((p : Int) != (p : Int)) = false := by simp
        have ALL := Lib.hid (fun (wx : World) (hx : Kp wr wx) => AL.out wx hx (by omega))
        by_cases hin : AllIn (m.getD k []) lo hi
        · have ST := Lib.hid (STP.out k hlt HG.out (Mx.rcode_ok hp.symm (fun j hj => hin j hj)))
          have IN := Lib.hid hin
          clear hin hp AL
          go_wp2_with fail
          go_quiet (fail)
          go_wp2_with fail
          refine (ALL.out _ ((Kp.rfl' wr).drewN _)).mono ?_; rintro e w' ⟨ht, rfl⟩
          obtain rfl := tells_yes ht IN.out
          go_wp2_with fail
          go_roundw
          case rel => exact ⟨k + 1, by omega, by go_num, ST.out, HD.out.more _⟩
          case measure => simp [intOf]; omega
        · have EV := Lib.hid ((RNG.out k hlt HG.out (by rw [Mx.rcode_bad' hp.symm hin]; decide)).trans (Mx.rcode_bad' hp.symm hin))
          have NIN := Lib.hid hin
          clear hin hp AL
          go_wp2_with fail
          go_quiet (fail)
          go_wp2_with fail
          refine (ALL.out _ ((Kp.rfl' wr).drewN _)).mono ?_; rintro e w' ⟨ht, rfl⟩
          obtain rfl := tells_no ht NIN.out
          go_wp2_with fail
          go_ret
          exact ⟨by rw [EV.out]; rfl, HD.out.more _⟩
      · have e4 : ((p : Int) != (q : Int)) = true := by rw [bne_iff_ne]; omega
        have hne : (m.getD k []).length ≠ q := by omega
        have EV := Lib.hid ((RNG.out k hlt HG.out (by rw [Mx.rcode_len hne]; decide)).trans (Mx.rcode_len hne))
        clear hp hpq hne AL
        go_wp2_with fail
        go_quiet (fail)
        go_wp2_with fail
        go_ret
        exact ⟨by rw [EV.out]; rfl, HD.out.more _⟩
    · have EV := Lib.hid (OKS.out (by have h : k = n := by omega
                                      rw [← h]; exact HG.out))
      clear hg hdr
      go_wp2_with fail
      go_ret
      exact ⟨by rw [EV.out]; rfl, HD.out⟩

set_option maxHeartbeats 1600000 in
theorem rMatrix_any (A : Option Addr) (m : List (List Int)) (n d most : Nat) (lo hi : Int) (w : World) (ha : LiesM w A m) (hn : m.length = n) (hmo : most ≤ 1000) :
    Calls Try.prog 29 #[.slice A n d, .int .i64 (most : Int), .int .i64 lo, .int .i64 hi] w fun e w' => e = .returned (.int .i64 (Mx.mcode most lo hi m : Int)) ∧ Drew w w' := by
  by_cases h1 : n = 0
  · have hm : Mx.mcode most lo hi m = 5 := by unfold Mx.mcode; rw [if_pos (by omega)]
    rw [hm]
    subst h1
    clear hm ha hn
    go_enter Try.func29, Try.ntmps29
    go_wp2
    go_ret
    exact ⟨rfl, Drew.refl _⟩
  obtain ⟨ad, A0, d0, rfl, _, hc0, _, hr0⟩ := ha 0 (by omega)
  rw [add_zero'] at hc0
  obtain ⟨q, hq⟩ : ∃ q, q = (m.getD 0 []).length := ⟨_, rfl⟩
  rw [← hq] at hc0
  have e0 : ((n : Int) == 0) = false := by rw [beq_eq_false_iff_ne]; omega
  have hn0 : (0 : Int) < n := by omega
  by_cases h2 : q = 0
  · have hm : Mx.mcode most lo hi m = 5 := by unfold Mx.mcode; rw [if_pos (by omega)]
    rw [hm]
    subst h2
    clear hm ha hn hr0 h1 hq
    go_enter Try.func29, Try.ntmps29
    go_wp2
    go_ret
    exact ⟨rfl, Drew.refl _⟩
  have e1 : ((q : Int) == 0) = false := by rw [beq_eq_false_iff_ne]; omega
  by_cases h3 : most < n
  · have hm : Mx.mcode most lo hi m = 4 := by unfold Mx.mcode; rw [if_neg (by omega), if_pos (by omega)]
    rw [hm]
    have e3 : (most : Int) < n := by omega
    clear hm ha hn hr0 h1 hq h2 h3
    go_enter Try.func29, Try.ntmps29
    go_wp2
    go_ret
    exact ⟨rfl, Drew.refl _⟩
  by_cases h4 : most < q
  · have hm : Mx.mcode most lo hi m = 4 := by unfold Mx.mcode; rw [if_neg (by omega), if_pos (by omega)]
    rw [hm]
    have e3 : ¬ (most : Int) < n := by omega
    have e4 : (most : Int) < q := by omega
    clear hm ha hn hr0 h1 hq h2 h3 h4
    go_enter Try.func29, Try.ntmps29
    go_wp2
    go_ret
    exact ⟨rfl, Drew.refl _⟩
  exact rMatrix_main (some ad) m n d q most lo hi w ha hn hq.symm (by omega) (by omega) (by omega) (by omega) hmo


end Go.Proofs.Ytkebjmapdcbnaaa
