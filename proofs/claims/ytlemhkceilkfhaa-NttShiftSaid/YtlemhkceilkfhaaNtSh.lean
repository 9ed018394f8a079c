/- The law NttShift: a step round is a power at each place; the first place is the sum of all. -/
import Derived.Test.YtlemhkceilkfhaaNtF
import Derived.Test.YtlemhkceilkfhaaSumG
import Derived.StillTailTactics
namespace Go.Proofs.Ytlemhkceilkfhaa
open Go.ChangeShapes Go.WideShapes Go.ChangeAt Go.RowKit
set_option linter.unusedVariables false

theorem nshift_bad (A : Option Addr) (l : List Int) (c : Nat) (w : World) (hl : Lies w A l) (h : ncode l ≠ 0) :
    Calls Try.prog 5 #[.slice A l.length c] w fun e w' => e = .returned (.bool true) ∧ Kp w w' := by
  have T := Lib.hid (fun (wx : World) (k : Kp w wx) => there_bad A l c wx (hl.keep k) h)
  unfold NFails at T
  rw [errOf_ne _ h] at T
  clear hl h
  generalize ncode l = x at *
  generalize l.length = n at *
  go_enter Try.func5, Try.ntmps5
  go_wp2_with fail
  refine (nFact_any _).mono ?_; rintro e w1 ⟨rfl, hk⟩
  have K1 := Lib.hid hk
  clear hk
  go_wp2_with fail
  refine (T.out _ K1.out).mono ?_; rintro e w2 ⟨rfl, hk⟩
  have K2 := Lib.hid (K1.out.trans hk)
  clear hk
  go_wp2_with fail
  go_ret
  exact ⟨rfl, K2.out⟩

theorem st_nt (f : Nat → Nt.G) : [((f 7).val : Int)] ++ (Nt.nt f).take 7 = Nt.nt (Nt.st f) := by
  refine Ka.list_ext (by rw [List.length_append, List.length_take, Nt.len_nt, Nt.len_nt]; rfl) fun k hk => ?_
  have hk8 : k < 8 := by rw [List.length_append, List.length_take, Nt.len_nt] at hk; simpa using hk
  show List.getD _ k 0 = List.getD _ k 0
  rw [Nt.nt_at _ k hk8]
  unfold Nt.st
  match k with
  | 0 => rfl
  | k + 1 =>
    rw [show (k + 1 + 7) % 8 = k by omega, List.singleton_append, List.getD_cons_succ, List.getD_eq_getElem?_getD, List.getElem?_take_of_lt (by omega), ← List.getD_eq_getElem?_getD, Nt.nt_at _ k (by omega)]

theorem sum_mod (f : Nat → Nt.G) (n : Nat) (hn : n ≤ 8) : Ka.sm n (Ka.at' (Nt.nt f)) % 257 = ((Nt.sg n f).val : Int) ∧ 0 ≤ Ka.sm n (Ka.at' (Nt.nt f)) ∧ Ka.sm n (Ka.at' (Nt.nt f)) ≤ 256 * n := by
  induction n with
  | zero => exact ⟨rfl, Int.le_refl 0, Int.le_refl 0⟩
  | succ n ih =>
    obtain ⟨h1, h2, h3⟩ := ih (by omega)
    have e : Ka.at' (Nt.nt f) n = ((f n).val : Int) := Nt.nt_at f n (by omega)
    have b := Nt.val_bound (f n)
    rw [Ka.sm, Nt.sg, e, Fin.val_add]
    have v1 := (Nt.sg n f).isLt
    refine ⟨?_, by omega, by omega⟩
    omega

theorem tr_first (f : Nat → Nt.G) : Nt.tr 64 f 0 = Nt.sg 8 f := Nt.sg_congr fun k _ => by
  rw [Nat.zero_mul]; show f k * 1 = f k; grind

set_option maxRecDepth 100000 in
set_option maxHeartbeats 3200000 in
theorem nshift_ok (A : Option Addr) (f : Nat → Nt.G) (c : Nat) (w : World) (hl : Lies w A (Nt.nt f)) (hc : 8 ≤ c) :
    Calls Try.prog 5 #[.slice A 8 c] w fun e w' => e = .returned (.bool true) ∧ Kp w w' := by
  have TA := Lib.hid (fun (wx : World) (k : Kp w wx) => there_ok A f c wx (hl.keep k))
  have TB := Lib.hid (fun (B : Option Addr) (d : Nat) (wx : World) (h : Lies wx B (Nt.nt (Nt.st f))) => there_ok B (Nt.st f) d wx h)
  unfold NGives at TA TB
  have HA := Lib.hid hl
  have SU := Lib.hid (fun (wx : World) (k : Kp w wx) => rsum_any A (Nt.nt f) 8 c wx (hl.keep k) (Nt.len_nt f) (by decide) (fun k => by
    by_cases h : k < 8
    · have e : Ka.at' (Nt.nt f) k = ((f k).val : Int) := Nt.nt_at f k h
      have := Nt.val_bound (f k); omega
    · have e : Ka.at' (Nt.nt f) k = 0 := (Ka.at_row 8 _ k).trans (if_neg h)
      omega))
  obtain ⟨s1, s2, s3⟩ := sum_mod f 8 (Nat.le_refl _)
  rw [← tr_first] at s1
  have ST := Lib.hid (fun k hk => Nt.tr_st f k hk)
  have E0 := Lib.hid (st_nt f)
  generalize Ka.sm 8 (Ka.at' (Nt.nt f)) = sv at *
  obtain ⟨ad, rfl, ha1, ac⟩ := hl 7 (by rw [Nt.len_nt]; decide)
  rw [Nt.nt_at _ 7 (by decide)] at ac
  obtain ⟨x7, hx7⟩ : ∃ x, x = ((f 7).val : Int) := ⟨_, rfl⟩
  rw [← hx7] at ac E0
  have HC := Lib.hid (And.intro ha1 ac)
  have hc7 : (7 : Int) ≤ (c : Int) := by omega
  clear ha1 ac hx7 hl
  go_enter Try.func5, Try.ntmps5
  go_wp2_with fail
  refine (nFact_any _).mono ?_; rintro e w1 ⟨rfl, hk⟩
  have K1 := Lib.hid hk
  clear hk
  go_wp2_with fail
  refine (TA.out _ K1.out).mono ?_; rintro e w2 ⟨g1, rfl, l1, hk⟩
  have L1 := Lib.hid l1
  have K2 := Lib.hid (K1.out.trans hk)
  clear hk l1
  have ac : w2.cell? ⟨ad.block, ad.off + 7, none⟩ = some (.int .i64 x7) := (K2.out.cell (p := ad.add 7) (by rw [block_add]; exact HC.out.1)).trans HC.out.2
  go_wp2_with (first
    | (at_builtin; refine wpList_push rfl (.tmp 23) (.tmp 27) rfl w2.heap.size (.slice none 0 0) [] x7 _ 1 rfl rfl ((Own.none _ _).new _) (by simp) (by decide) (by simp) ?_; intro v6 w6 p1 p2 p3; have O6 := Lib.hid p1; have K6 := Lib.hid (own_below ((Own.none _ w2.heap.size).new _) ((Kp.rfl' w2).new _) (by simp) p2); clear p1 p2 p3)
    | (at_builtin; refine wpList_cat rfl (.tmp 29) (.tmp 31) rfl w2.heap.size v6 ([] ++ [x7]) ((Nt.nt f).take 7) (some ad) 7 c rfl rfl (by rw [List.length_take, Nt.len_nt]; rfl) O6.out ((HA.out.keep (K2.out.trans K6.out)).take 7) (by rw [List.length_take, Nt.len_nt]; simp) K6.out.size ?_; intro v7 w7 p1 p2 p3; have O7 := Lib.hid p1; have K7 := Lib.hid (own_below O6.out K6.out K6.out.size p2); clear p1 p2 p3))
  have o7 : Own w7 w2.heap.size v7 (Nt.nt (Nt.st f)) := by
    have h := O7.out
    rw [List.nil_append, E0.out] at h
    exact h
  obtain ⟨A7, c7, rfl, l7, _⟩ := o7.cap
  rw [Nt.len_nt]
  have L1 := Lib.hid (L1.out.keep K7.out)
  have K3 := Lib.hid (K2.out.trans K7.out)
  have L7 := Lib.hid l7
  clear o7 O7 O6 K6 K7 l7 ac
  refine (TB.out A7 c7 _ L7.out).mono ?_; rintro e w8 ⟨g2, rfl, l8, hk⟩
  have L8 := Lib.hid l8
  have L1 := Lib.hid (L1.out.keep hk)
  have K8 := Lib.hid (K3.out.trans hk)
  clear hk l8
  have fc := lies_at (L1.out.keep ((Kp.rfl' w8).drewN 1)) 0 (by rw [Nt.len_nt]; decide)
  have fc0 := lies_at L1.out 0 (by rw [Nt.len_nt]; decide)
  rw [Nt.nt_at _ 0 (by decide)] at fc fc0
  have s1' : sv.tmod 257 = ((Nt.tr 64 f 0).val : Int) := by rw [Int.tmod_eq_emod_of_nonneg s2]; exact s1
  have SQ := Lib.hid (fun d => show Calls Try.prog 13 #[.slice (some ad) 8 c] (w8.drewN d) fun e w' => e = .returned (.int .i64 sv) ∧ w8.drewN d = w' from SU.out _ (K8.out.drewN d))
  generalize ((Nt.tr 64 f 0).val : Int) = z0 at *
  have hz0 : ((z0 : Int) != z0) = false := by simp
  go_wp2_with fail
  go_quiet ((first
    | (with_reducible exact quiet_here (SQ.out _))))
  clear fc fc0 s1 s1' hz0
  go_wp2_with fail
  generalize hw9 : w8.drewN _ = w9
  have D9 : Drew w8 w9 := ⟨_, hw9.symm⟩
  clear hw9
  have L8 := Lib.hid (L8.out.keep D9.kp)
  have L1 := Lib.hid (L1.out.keep D9.kp)
  have K9 := Lib.hid (K8.out.trans D9.kp)
  clear D9
  go_loopw [8, 9] (fun v i wr => ∃ k : Nat, k ≤ 8 ∧ i = .int .i64 (k : Int) ∧ v = .int .i64 ((Nt.pw 64 k).val : Int) ∧ Drew w9 wr) (fun _ i _ => 8 - (intOf i).toNat)
  case atStart => exact ⟨0, Nat.zero_le _, rfl, rfl, Drew.refl _⟩
  case round =>
    obtain ⟨k, hk, rfl, rfl, hd⟩ := hrel
    have HD := Lib.hid hd
    clear hd
    by_cases hlt : k < 8
    · have xc := lies_at (L1.out.keep HD.out.kp) k (by rw [Nt.len_nt]; exact hlt)
      rw [Nt.nt_at _ k hlt] at xc
      have yc := lies_at (L8.out.keep HD.out.kp) k (by rw [Nt.len_nt]; exact hlt)
      rw [Nt.nt_at _ k hlt, ST.out k hlt] at yc
      have hv := Nt.val_mul (Nt.tr 64 f k) (Nt.pw 64 k)
      obtain ⟨p1, p2⟩ := Nt.prod_bound (Nt.tr 64 f k) (Nt.pw 64 k)
      have x1 := Nt.val_bound (Nt.tr 64 f k)
      have y1 := Nt.val_bound (Nt.pw 64 k)
      have NX := Lib.hid (Nt.val_mul (Nt.pw 64 k) 64)
      rw [show (((64 : Nt.G).val : Nat) : Int) = 64 from rfl] at NX
      have NX' := Lib.hid (show ((Nt.pw 64 (k + 1)).val : Int) = ((Nt.pw 64 k * 64).val : Int) from rfl)
      generalize ((Nt.tr 64 f k * Nt.pw 64 k).val : Int) = z at *
      generalize ((Nt.tr 64 f k).val : Int) = x at *
      generalize ((Nt.pw 64 k).val : Int) = y at *
      have INX := Lib.hid (fun wx => lawIn_any x 0 256 wx true (by simp; omega))
      have hw : IntKind.i64.wrap (x * y) = x * y := IntWalk.i64_in _ (by omega)
      have hv2 : (x * y).tmod 257 = z := by rw [Int.tmod_eq_emod_of_nonneg (by omega)]; exact hv
      have hne : ((z : Int) != z) = false := by simp
      clear x1 p1 p2
      go_wp2_with fail
      go_quiet ((first
        | (with_reducible exact quiet_here (INX.out _))))
      go_wp2_with fail
      go_roundw
      case rel => exact ⟨k + 1, by omega, by go_num, by rw [NX'.out, NX.out], HD.out.more _⟩
      case measure => simp [intOf]; omega
    · obtain rfl : k = 8 := by omega
      go_wp2_with fail
      go_ret
      exact ⟨rfl, K9.out.trans HD.out.kp⟩

theorem walk_NttShift (A : Option Addr) (l : List Int) (c : Nat) (w : World) (hl : Lies w A l) (hc : l.length ≤ c) :
    Calls Try.prog 5 #[.slice A l.length c] w fun e w' => e = .returned (.bool true) ∧ Kp w w' := by
  by_cases h : ncode l = 0
  · obtain ⟨f, rfl⟩ := nt_of_code h
    rw [Nt.len_nt] at hc ⊢
    exact nshift_ok A f c w hl hc
  · exact nshift_bad A l c w hl h

end Go.Proofs.Ytlemhkceilkfhaa
