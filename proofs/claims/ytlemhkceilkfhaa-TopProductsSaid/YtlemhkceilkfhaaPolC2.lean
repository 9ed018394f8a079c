/- Contracts of package poly, second part: Add and Mul. -/
import Derived.Test.YtlemhkceilkfhaaPolC1
namespace Go.Proofs.Ytlemhkceilkfhaa
open Go.ChangeShapes Go.WideShapes Go.ChangeAt Go.RowKit
set_option linter.unusedVariables false

/-- The answer is a row of factors, and no error. -/
def Gives (l : List Fp.F) (w : World) (e : Ending) (w' : World) : Prop :=
  ∃ A c, e = .returned (.tuple #[.slice A l.length c, .nilIface]) ∧ Lies w' A (Pol.vals l) ∧ l.length ≤ c ∧ Kp w w'
/-- The answer is an error, and nothing else. -/
def Fails (c : Nat) (w : World) (e : Ending) (w' : World) : Prop := e = .returned (.tuple #[.slice none 0 0, errOf c]) ∧ Kp w w'

theorem Row.trim {w : World} {g : Nat} {R : List Fp.F} (h : Row w g (Pol.vals R)) : Lies w (some ⟨g, 0, none⟩) (Pol.vals (Pol.trim R)) := by
  rw [Pol.trim_take, Pol.vals_take]; exact h.lies.take _

/-- copy(row, l): a row of noughts just made, and a slice that is no longer. -/
theorem copy_run (w1 : World) (g N n c : Nat) (A : Option Addr) (p : List Fp.F) (ty : TypeId) (hr : Row w1 g (Pol.vals (List.replicate N 0))) (hl : Lies w1 A (Pol.vals p)) (hn : n = p.length) (hN : n ≤ N) :
    ∃ w2, (Builtin.copy_ #[22, 22] ty #[.slice (some ⟨g, 0, none⟩) N N, .slice A n c]).run Try.prog w1 = .ok (goInt n) w2 ∧
      Row w2 g (Pol.vals (p ++ List.replicate (N - n) 0)) ∧ ∀ B w0, Below B w0 w1 → B ≤ g → Below B w0 w2 := by
  obtain ⟨i0, hi, hz0, hz1, hz2⟩ := info_parts int_info
  have hsz : (Try.prog.info? 3).map (·.size) = some 1 := by rw [hi]; simp [hz1]
  subst hn
  by_cases h0 : p.length = 0
  · obtain rfl : p = [] := List.eq_nil_of_length_eq_zero h0
    exact ⟨w1, run_copy_none w1 _ _ ty 3 _ A N N 0 c Try.underlying22 hsz (by simp), by simpa using hr, fun _ _ h _ => h⟩
  · obtain ⟨ad, rfl, _, _⟩ := hl 0 (by rw [Pol.len_vals]; omega)
    have hlen : (ints (Pol.vals p)).length = p.length := by rw [ints, List.length_map, Pol.len_vals]
    have hrun := run_copy_row (P := Try.prog) w1 22 22 ty 3 g 0 N N ad p.length c _ 3 (ints (Pol.vals p)) Try.underlying22 hsz hr (by rw [hlen]; exact (Nat.min_eq_left hN).symm)
      (fun j v hj => by
        have hj' : j < (Pol.vals p).length := by
          rcases Nat.lt_or_ge j (Pol.vals p).length with hlt | hge
          · exact hlt
          · rw [List.getElem?_eq_none (by simpa using hge)] at hj; cases hj
        obtain ⟨ad', e, _, hc⟩ := hl j hj'
        injection e with e
        subst e
        rw [hc, ← hj]
        simp [hj']) (by rw [hlen]; simp [Pol.len_vals]; omega) (fun v hv => by simp at hv; obtain ⟨y, _, rfl⟩ := hv; rfl)
    rw [hlen] at hrun
    refine ⟨_, hrun, ?_, fun B w0 hb hB => below_setRow hb hB _⟩
    unfold Row
    rw [setRow_heap w1 g _ _ 3 (0, 0) hr]
    congr 3
    rw [Pol.vals_append, ints, ints, ints, List.map_append]
    simp [Pol.vals]

theorem code2_ok (p q : List Fp.F) (hp : p.length ≤ 12) (hq : q.length ≤ 12) : Pol.code2 (Pol.vals p) (Pol.vals q) = 0 := by
  unfold Pol.code2
  rw [if_pos (Pol.code_vals p hp), Pol.code_vals q hq]
theorem checkBoth_ok (A B : Option Addr) (p q : List Fp.F) (c d : Nat) (w : World) (ha : Lies w A (Pol.vals p)) (hb : Lies w B (Pol.vals q)) (hp : p.length ≤ 12) (hq : q.length ≤ 12) :
    Calls Try.prog 25 #[.slice A p.length c, .slice B q.length d] w fun e w' => e = .returned .nilIface ∧ w = w' := by
  have h := checkBoth_any A B (Pol.vals p) (Pol.vals q) c d w ha hb
  rw [Pol.len_vals, Pol.len_vals, code2_ok p q hp hq] at h
  exact h
theorem code2_some (l m : List Int) (h : Pol.code2 l m ≠ 0) : Pol.code2 l m = 1 ∨ Pol.code2 l m = 4 := by
  unfold Pol.code2 at *
  have h1 := Pol.code_some l
  have h2 := Pol.code_some m
  split <;> simp_all

theorem mul_bad (A B : Option Addr) (l m : List Int) (c d : Nat) (w : World) (ha : Lies w A l) (hb : Lies w B m)
    (h : Pol.code2 l m ≠ 0) :
    Calls Try.prog 16 #[.slice A l.length c, .slice B m.length d] w fun e w' => Fails (Pol.code2 l m) w e w' := by
  have C := Lib.hid (checkBoth_any A B l m c d w ha hb)
  have hs := code2_some l m h
  clear h ha hb
  generalize Pol.code2 l m = x at *
  generalize l.length = n at *
  generalize m.length = q at *
  rcases hs with rfl | rfl
  · go_enter Try.func16, Try.ntmps16
    go_wp2_with fail
    refine (C.out).mono ?_; rintro e w' ⟨rfl, rfl⟩
    rw [show errOf 1 = .iface 46 (.int .i64 1) from rfl]
    go_wp2_with fail
    go_ret2
    exact ⟨rfl, Kp.rfl' _⟩
  · go_enter Try.func16, Try.ntmps16
    go_wp2_with fail
    refine (C.out).mono ?_; rintro e w' ⟨rfl, rfl⟩
    rw [show errOf 4 = .iface 46 (.int .i64 4) from rfl]
    go_wp2_with fail
    go_ret2
    exact ⟨rfl, Kp.rfl' _⟩

set_option maxHeartbeats 1600000 in
theorem mul_ok (A B : Option Addr) (p q : List Fp.F) (c d : Nat) (w : World) (ha : Lies w A (Pol.vals p)) (hb : Lies w B (Pol.vals q)) (hp : p.length ≤ 12) (hq : q.length ≤ 12) :
    Calls Try.prog 16 #[.slice A p.length c, .slice B q.length d] w fun e w' => Gives (Pol.mul p q) w e w' := by
  have C := Lib.hid (checkBoth_ok A B p q c d w ha hb hp hq)
  have HA := Lib.hid ha
  have HB := Lib.hid hb
  obtain ⟨n, hn⟩ : ∃ n, n = p.length := ⟨_, rfl⟩
  obtain ⟨m, hm⟩ : ∃ m, m = q.length := ⟨_, rfl⟩
  rw [← hn] at hp C ⊢
  rw [← hm] at hq C ⊢
  have HN := Lib.hid hn
  have HM := Lib.hid hm
  clear ha hb hn hm
  obtain ⟨i0, hi, hz0, hz1, hz2⟩ := info_parts int_info
  go_enter Try.func16, Try.ntmps16
  go_wp2_with fail
  refine (C.out).mono ?_; rintro e w' ⟨rfl, rfl⟩
  go_wp2_with (at_make; refine wpList_make_full _ rfl _ _ 22 rfl w.heap.size 3 i0 (.int .i64 0) 1 Try.underlying22 hi hz0 hz1 _ _ _ _ (n + m) rfl rfl (by simp) (by simp) (by rw [hz2]; omega) (by unfold maxLen; omega) (Nat.le_refl _) ?_; intro w1 hown hgrow)
  have hrow : Row w1 w.heap.size (Pol.vals (Pol.mulRows p q 0)) := by
    rw [Pol.mulRows, Pol.vals_zeros, ← HN.out, ← HM.out]; exact row_made hown
  have hkp : Kp w w1 := (Kp.rfl' w).grown hgrow (by simp) (fun k hk => by cases hk)
  clear hown hgrow hi hz0 hz1 hz2 C
  obtain ⟨g, hg⟩ : ∃ g, g = w.heap.size := ⟨_, rfl⟩
  rw [← hg] at hrow ⊢
  have HG := Lib.hid hg
  clear hg
  go_loopw [26] (fun i wr => ∃ k : Nat, k ≤ n ∧ i = .int .i64 (k : Int) ∧ Row wr g (Pol.vals (Pol.mulRows p q k)) ∧ Kp w wr) (fun i _ => n - (intOf i).toNat)
  case atStart => exact ⟨0, Nat.zero_le _, rfl, hrow, hkp⟩
  case round =>
    clear hrow hkp
    obtain ⟨k, hk, rfl, hr, hkp⟩ := hrel
    have HR := Lib.hid hr
    have HK := Lib.hid hkp
    clear hr hkp
    by_cases hlt : k < n
    · obtain ⟨ad, rfl, _, hc⟩ := (HA.out.keep HK.out) k (by rw [Pol.len_vals, ← HN.out]; exact hlt)
      rw [Pol.vals_at] at hc
      obtain ⟨a, ha⟩ : ∃ a, a = Pol.co p k := ⟨_, rfl⟩
      rw [← ha] at hc
      have HA1 := Lib.hid ha
      clear ha
      go_wp2_with fail
      go_loopw [33] (fun j wr' => ∃ t : Nat, t ≤ m ∧ j = .int .i64 (t : Int) ∧ Row wr' g (Pol.vals (Pol.addAt (Pol.mulRows p q k) a q k t)) ∧ Kp w wr') (fun j _ => m - (intOf j).toNat)
      case atStart => exact ⟨0, Nat.zero_le _, rfl, HR.out, HK.out⟩
      case round =>
        obtain ⟨t, ht, rfl, hr2, hkp2⟩ := hrel
        by_cases hlt2 : t < m
        · obtain ⟨bd, rfl, _, hd⟩ := (HB.out.keep hkp2) t (by rw [Pol.len_vals, ← HM.out]; exact hlt2)
          rw [Pol.vals_at] at hd
          obtain ⟨b, hb⟩ : ∃ b, b = Pol.co q t := ⟨_, rfl⟩
          rw [← hb] at hd
          have hlen : (Pol.vals (Pol.addAt (Pol.mulRows p q k) a q k t)).length = n + m := by rw [Pol.len_vals, Pol.len_addAt, Pol.len_mulRows, HN.out, HM.out]
          have hcell := hr2.cell (k + t) (by omega)
          have hfree := hr2.free (k + t)
          rw [Pol.vals_at] at hcell
          have HS := Lib.hid (show Pol.addAt (Pol.mulRows p q k) a q k (t + 1) = (Pol.addAt (Pol.mulRows p q k) a q k t).set (k + t) (Pol.co (Pol.addAt (Pol.mulRows p q k) a q k t) (k + t) + a * b) by rw [Pol.addAt, hb])
          have HR2 := Lib.hid hr2
          have HK2 := Lib.hid hkp2
          clear hr2 hkp2 hb hlen
          generalize Pol.co (Pol.addAt (Pol.mulRows p q k) a q k t) (k + t) = s at *
          have HV := Lib.hid (Pol.val_madd s a b)
          obtain ⟨p1, p2⟩ := prod_bound a b
          have s1 := Fp.val_bound s
          have a1 := Fp.val_bound a
          have b1 := Fp.val_bound b
          generalize (a.val : Int) = x at *
          generalize (b.val : Int) = y at *
          generalize (s.val : Int) = v at *
          go_wp2_with fail
          go_roundw
          case rel =>
            refine ⟨t + 1, by omega, by go_num, ?_, HK2.out.put (p := ⟨g, k + t, none⟩) (by show w.heap.size ≤ g; rw [HG.out]; exact Nat.le_refl _) _⟩
            rw [HS.out, Pol.vals_set, HV.out]
            exact HR2.out.put _ _
          case measure => simp [intOf]; omega
        · have HR3 := Lib.hid (show Row wr g (Pol.vals (Pol.mulRows p q (k + 1))) by
            rw [Pol.mulRows, ← HA1.out, ← HM.out, show m = t by omega]; exact hr2)
          have HK2 := Lib.hid hkp2
          clear hr2 hkp2
          go_wp2_with fail
          go_roundw
          case rel => exact ⟨k + 1, by omega, by go_num, HR3.out, HK2.out⟩
          case measure => simp [intOf]; omega
    · obtain rfl : k = n := by omega
      have e := Lib.hid (show Pol.trim (Pol.mulRows p q k) = Pol.mul p q by
        have h := Pol.rows_mul p q (by have := HN.out; omega) (by have := HM.out; omega)
        rw [← HN.out] at h; exact h)
      have T := Lib.hid (trimmed_any (some ⟨g, 0, none⟩) (Pol.mulRows p q k) (k + m) wr HR.out.lies (by rw [Pol.len_mulRows, HN.out, HM.out]; exact Nat.le_refl _) (by rw [Pol.len_mulRows, ← HN.out, ← HM.out]; omega))
      rw [Pol.len_mulRows, ← HN.out, ← HM.out] at T
      go_wp2_with fail
      refine (T.out).mono ?_; rintro e w' ⟨rfl, rfl⟩
      go_wp2_with fail
      go_ret2
      exact ⟨some ⟨g, 0, none⟩, k + m, by rw [← e.out]; rfl, by rw [← e.out]; exact HR.out.trim, by rw [← e.out]; have := Pol.len_trim (Pol.mulRows p q k); rw [Pol.len_mulRows, ← HN.out, ← HM.out] at this; exact this, HK.out⟩

end Go.Proofs.Ytlemhkceilkfhaa
