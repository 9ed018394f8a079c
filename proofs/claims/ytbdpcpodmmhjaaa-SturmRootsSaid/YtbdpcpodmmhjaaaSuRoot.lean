/- The law SturmRoots, walked. -/
import Derived.Test.YtbdpcpodmmhjaaaSuFact
import Derived.Test.YtbdpcpodmmhjaaaStU
import Derived.Test.YtbdpcpodmmhjaaaLawIn
import Derived.Test.YtbdpcpodmmhjaaaIdx
import Derived.StillTailTactics
import Derived.BigQuiet
namespace Go.Proofs.Ytbdpcpodmmhjaaa
open Go.ChangeShapes Go.WideShapes Go.ChangeAt Go.RowKit
set_option linter.unusedVariables false

/-- The row behind k of the numbers. -/
def fr (T : Int) (R : List Int) (k : Nat) : List Int := (R.take k).foldl Stu.nrow [T]
theorem fr_succ (T : Int) (R : List Int) {k : Nat} (h : k < R.length) : fr T R (k + 1) = Stu.nrow (fr T R k) (R.getD k 0) := by
  unfold fr
  rw [Stu.tm_take h, List.foldl_append]; rfl
theorem fr_len (T : Int) (R : List Int) {k : Nat} (h : k ≤ R.length) : (fr T R k).length = k + 1 := by
  unfold fr
  rw [Stu.fold_len, List.length_take, List.length_singleton]; omega
theorem bn_take {l : List Int} {B : Int} (h : Stu.Bn B l) (k : Nat) : Stu.Bn B (l.take k) := fun z hz => h z (List.mem_of_mem_take hz)
theorem fr_bn {T : Int} {R : List Int} (hT : -20 ≤ T ∧ T ≤ 20) (hR : Stu.Bn 20 R) (h3 : R.length ≤ 3) (k : Nat) : Stu.Bn 200000 (fr T R k) := by
  have := Stu.fold_bn (R.take k) [T] 20 (by omega) (fun z hz => by rw [List.mem_singleton.1 hz]; exact hT) (bn_take hR k)
  refine Stu.Bn.le this ?_
  rw [List.length_take]
  rcases show min k R.length = 0 ∨ min k R.length = 1 ∨ min k R.length = 2 ∨ min k R.length = 3 by omega with h | h | h | h <;> rw [h] <;> decide
theorem fr_val (T : Int) (R : List Int) (x : Rat) : Stu.iv (fr T R R.length) x = T * Stu.Pr R x := by
  unfold fr
  rw [Stu.fold_val, List.take_length]
  show ((T : Rat) + x * 0) * _ = _
  grind
theorem fr_tp (T : Int) (R : List Int) : Stu.tp (fr T R R.length) = T := by
  unfold fr
  rw [Stu.fold_tp _ _ (by simp)]; rfl

/-- How many different ones there are among the first k, and how many of them are in between. -/
theorem dd_step (R : List Int) {k : Nat} (h : k < R.length) : (Occurs R k (R.getD k 0) → Stu.dd (R.take (k + 1)) = Stu.dd (R.take k)) ∧ (¬ Occurs R k (R.getD k 0) → Stu.dd (R.take (k + 1)) = Stu.dd (R.take k) ++ [R.getD k 0]) := by
  have mem : R.getD k 0 ∈ R.take k ↔ Occurs R k (R.getD k 0) := by
    constructor
    · intro hm
      obtain ⟨j, hj, e⟩ := List.getElem_of_mem hm
      rw [List.length_take] at hj
      refine ⟨j, by omega, ?_⟩
      rw [← e, List.getElem_take, List.getD_eq_getElem?_getD, List.getElem?_eq_getElem (by omega)]; rfl
    · rintro ⟨j, hj, e⟩
      rw [← e, List.getD_eq_getElem?_getD, List.getElem?_eq_getElem (by omega)]
      exact List.mem_take_iff_getElem.2 ⟨j, by omega, rfl⟩
  constructor
  · intro ho; rw [Stu.tm_take h, Stu.dd_snoc, if_pos (mem.2 ho)]
  · intro ho; rw [Stu.tm_take h, Stu.dd_snoc, if_neg fun e => ho (mem.1 e)]
theorem between (r x y : Int) : ((x : Rat) < (r : Rat) ∧ (r : Rat) ≤ (y : Rat)) ↔ (x < r ∧ r ≤ y) := by
  rw [Rat.intCast_lt_intCast, Rat.intCast_le_intCast]
/-- The row of the law, if the program takes it. -/
theorem fr_told {T : Int} {R : List Int} (hT : T ≠ 0) (h3 : R.length ≤ 3) :
    (∀ x y : Int, x ≤ y → dv (fr T R R.length) x - dv (fr T R R.length) y = (Stu.cn (Stu.dd R) x y : Int)) ∧ Stu.ends (Stu.chain (fr T R R.length)) = ((Stu.dd R).length : Int) := by
  obtain ⟨a, b⟩ := Stu.roots_told (f := fr T R R.length) (fun _ => by rw [fr_tp]; exact hT) h3 (fr_len T R (Nat.le_refl _)) (k := (T : Rat)) (Stu.castne hT) (fr_val T R)
  exact ⟨fun x y h => a x y (Rat.intCast_le_intCast.2 h), b⟩

set_option maxRecDepth 100000 in
set_option maxHeartbeats 3200000 in
theorem roots_out (A : Option Addr) (R : List Int) (d : Nat) (T x y : Int) (w : World) (ha : Lies w A R) (h : ¬ (R.length ≤ 3 ∧ AllIn R (-20) 20 ∧ (-20 ≤ T ∧ T ≤ 20) ∧ T ≠ 0)) :
    Calls Try.prog 3 #[.slice A R.length d, .int .i64 T, .int .i64 x, .int .i64 y] w fun e w' => e = .returned (.bool true) ∧ Kp w w' := by
  have FA := Lib.hid (sturmFact_any w)
  by_cases h1 : R.length ≤ 3
  · have AL := Lib.hid (fun (w' : World) (k : Kp w w') => all_any A R d (-20) 20 w' (ha.keep k) (by omega))
    by_cases h2 : AllIn R (-20) 20
    · have IT := Lib.hid (fun w => law3In_any T (-20) 20 w (decide (-20 ≤ T) && decide (T ≤ 20)) rfl)
      by_cases h3 : -20 ≤ T ∧ T ≤ 20
      · obtain rfl : T = 0 := Classical.byContradiction fun e => h ⟨h1, h2, h3, e⟩
        have AY := Lib.hid (show ∀ w' : World, Kp w w' → Calls Try.prog 9 #[.slice A R.length d, .int .i64 (-20), .int .i64 20] w' (fun e w'' => e = .returned (.bool true) ∧ w' = w'') from fun w' k => (AL.out w' k).mono fun e w'' ⟨ht, hw⟩ => ⟨tells_yes ht h2, hw⟩)
        generalize R.length = n at *
        have hn : ¬ (3 : Int) < (n : Int) := by omega
        clear ha h h1 h2 h3 AL
        go_enter Try.func3, Try.ntmps3
        go_wp2_with fail
        refine (FA.out).mono ?_; rintro e w1 ⟨rfl, k1⟩
        have K1 := Lib.hid k1
        clear k1 FA
        go_wp2_with fail
        refine (AY.out _ K1.out).mono ?_; rintro e w2 ⟨rfl, rfl⟩
        go_wp2_with fail
        refine (IT.out _).mono ?_; rintro e w2 ⟨rfl, rfl⟩
        go_wp2_with fail
        go_ret
        exact ⟨rfl, K1.out⟩
      · rw [show (decide (-20 ≤ T) && decide (T ≤ 20)) = false by
          by_cases q : -20 ≤ T
          · rw [decide_eq_false (show ¬ T ≤ 20 from fun h2 => h3 ⟨q, h2⟩), Bool.and_false]
          · rw [decide_eq_false q]; rfl] at IT
        have AY := Lib.hid (show ∀ w' : World, Kp w w' → Calls Try.prog 9 #[.slice A R.length d, .int .i64 (-20), .int .i64 20] w' (fun e w'' => e = .returned (.bool true) ∧ w' = w'') from fun w' k => (AL.out w' k).mono fun e w'' ⟨ht, hw⟩ => ⟨tells_yes ht h2, hw⟩)
        generalize R.length = n at *
        have hn : ¬ (3 : Int) < (n : Int) := by omega
        clear ha h h1 h2 h3 AL
        go_enter Try.func3, Try.ntmps3
        go_wp2_with fail
        refine (FA.out).mono ?_; rintro e w1 ⟨rfl, k1⟩
        have K1 := Lib.hid k1
        clear k1 FA
        go_wp2_with fail
        refine (AY.out _ K1.out).mono ?_; rintro e w2 ⟨rfl, rfl⟩
        go_wp2_with fail
        refine (IT.out _).mono ?_; rintro e w2 ⟨rfl, rfl⟩
        go_wp2_with fail
        go_ret
        exact ⟨rfl, K1.out⟩
    · have AY := Lib.hid (show ∀ w' : World, Kp w w' → Calls Try.prog 9 #[.slice A R.length d, .int .i64 (-20), .int .i64 20] w' (fun e w'' => e = .returned (.bool false) ∧ w' = w'') from fun w' k => (AL.out w' k).mono fun e w'' ⟨ht, hw⟩ => ⟨tells_no ht h2, hw⟩)
      generalize R.length = n at *
      have hn : ¬ (3 : Int) < (n : Int) := by omega
      clear ha h h1 h2 AL
      go_enter Try.func3, Try.ntmps3
      go_wp2_with fail
      refine (FA.out).mono ?_; rintro e w1 ⟨rfl, k1⟩
      have K1 := Lib.hid k1
      clear k1 FA
      go_wp2_with fail
      refine (AY.out _ K1.out).mono ?_; rintro e w2 ⟨rfl, rfl⟩
      go_wp2_with fail
      go_ret
      exact ⟨rfl, K1.out⟩
  · generalize R.length = n at *
    have hn : (3 : Int) < (n : Int) := by omega
    clear ha h h1
    go_enter Try.func3, Try.ntmps3
    go_wp2_with fail
    refine (FA.out).mono ?_; rintro e w1 ⟨rfl, k1⟩
    have K1 := Lib.hid k1
    clear k1 FA
    go_wp2_with fail
    go_ret
    exact ⟨rfl, K1.out⟩

set_option maxRecDepth 100000 in
set_option maxHeartbeats 12800000 in
theorem roots_in (A : Option Addr) (R : List Int) (n d : Nat) (T x y : Int) (w : World) (ha : Lies w A R) (hn : R.length = n) (hd : n ≤ d) (h1 : n ≤ 3) (h2 : AllIn R (-20) 20) (h3 : -20 ≤ T ∧ T ≤ 20) (h4 : T ≠ 0) :
    Calls Try.prog 3 #[.slice A n d, .int .i64 T, .int .i64 x, .int .i64 y] w fun e w' => e = .returned (.bool true) ∧ Kp w w' := by
  obtain ⟨i0, hi, hz0, hz1, hz2⟩ := info_parts int_info
  have FA := Lib.hid (sturmFact_any w)
  have AL := Lib.hid (show ∀ w' : World, Kp w w' → Calls Try.prog 9 #[.slice A n d, .int .i64 (-20), .int .i64 20] w' (fun e w'' => e = .returned (.bool true) ∧ w' = w'') from fun w' k => by
    have := all_any A R d (-20) 20 w' (ha.keep k) (by omega)
    rw [hn] at this
    exact this.mono fun e w'' ⟨ht, hw⟩ => ⟨tells_yes ht h2, hw⟩)
  have IT := Lib.hid (fun w => law3In_any T (-20) 20 w true (by rw [decide_eq_true h3.1, decide_eq_true h3.2]; rfl))
  have hn3 : ¬ (3 : Int) < (n : Int) := by omega
  have ht0 : (T == 0) = false := by rw [beq_eq_false_iff_ne]; exact h4
  have HA := Lib.hid ha
  have HN := Lib.hid hn
  have bR : Stu.Bn 20 R := bn_allIn.2 h2
  have FS := Lib.hid (fun k (hk : k < n) => fr_succ T R (k := k) (by omega))
  have FL := Lib.hid (fun k (hk : k ≤ n) => fr_len T R (k := k) (by omega))
  have FB := Lib.hid (fun k => fr_bn h3 bR (by omega) k)
  have RB := Lib.hid (fun k (hk : k < n) => bn_at bR (k := k) (by omega))
  have DD := Lib.hid (fun k (hk : k < n) => dd_step R (k := k) (by omega))
  have TOLD := Lib.hid (fr_told (T := T) (R := R) h4 (by omega))
  rw [hn] at TOLD
  have W0 := whl_or (fr T R n)
  rw [fr_len T R (by omega)] at W0
  have WH := Lib.hid W0
  have NB := Lib.hid (show ucd (fr T R n) ≠ 0 → ¬ AllIn (fr T R n) (-20) 20 from fun hu ha => hu (ucd_ok (by rw [fr_len T R (by omega)]; omega) (by rw [fr_len T R (by omega)]; omega) ha (by
    have := fr_tp T R
    rw [hn] at this
    unfold Stu.tp at this
    rw [this]; exact h4)))
  clear ha hn h2 h3 h4 bR W0
  go_enter Try.func3, Try.ntmps3
  go_wp2_with fail
  refine (FA.out).mono ?_; rintro e w1 ⟨rfl, k1⟩
  have K1 := Lib.hid k1
  clear k1 FA
  go_wp2_with fail
  refine (AL.out _ K1.out).mono ?_; rintro e w2 ⟨rfl, rfl⟩
  clear AL
  go_wp2_with fail
  refine (IT.out _).mono ?_; rintro e w2 ⟨rfl, rfl⟩
  clear IT
  go_wp2_with fail
  have R1 := Lib.hid (show Row (w1.alloc (.cells #[.int .i64 T] 3)) w1.heap.size (fr T R 0) from heap_alloc_new w1 _)
  have K2 := Lib.hid (K1.out.new (.cells #[.int .i64 T] 3))
  go_loopw [10, 11] (fun v i wr => ∃ (k m G : Nat), k ≤ n ∧ m = k + 1 ∧ i = .int .i64 (k : Int) ∧ v = .slice (some ⟨G, 0, none⟩) m m ∧ w.heap.size ≤ G ∧ Row wr G (fr T R k) ∧ Kp w wr) (fun _ i _ => n - (intOf i).toNat)
  case atStart => exact ⟨0, 1, w1.heap.size, Nat.zero_le _, rfl, rfl, rfl, K1.out.size, R1.out, K2.out⟩
  case round =>
    clear R1 K2 K1
    obtain ⟨k, m, G, hk, hm, rfl, rfl, hG, hrow, hkp⟩ := hrel
    obtain ⟨wo, hwo⟩ : ∃ x, x = wr := ⟨_, rfl⟩
    subst hwo
    have HR := Lib.hid hrow
    have HK := Lib.hid hkp
    have HGG := Lib.hid hG
    have HM := Lib.hid hm
    have m4 : m ≤ 4 := by omega
    clear hrow hkp hm hG
    by_cases hlt : k < n
    · have hwm : IntKind.i64.wrap ((m : Int) + 1) = ((m + 1 : Nat) : Int) := by rw [show ((m : Int) + 1) = ((m + 1 : Nat) : Int) by omega]; exact IntWalk.i64_in _ (by omega)
      obtain ⟨M, hM⟩ : ∃ M, M = m + 1 := ⟨_, rfl⟩
      rw [← hM] at hwm
      have HMM := Lib.hid hM
      have M5 : M ≤ 5 := by omega
      clear hM
      go_wp2_with (at_make; refine wpList_make_full _ rfl _ _ 22 rfl wo.heap.size 3 i0 (.int .i64 0) 1 Try.underlying22 hi hz0 hz1 _ _ _ _ M rfl rfl rfl rfl (by rw [hz2]; omega) (by unfold maxLen; omega) (Nat.le_refl _) ?_; intro w3 hown hgrow)
      have HR3 := Lib.hid (row_made hown)
      have k3 : Kp wo w3 := (Kp.rfl' wo).grown hgrow (by simp) (fun k hk => by cases hk)
      have HK3 := Lib.hid (HK.out.trans k3)
      have HF3 := Lib.hid (HR.out.keep k3)
      have GL := Lib.hid HR.out.lt
      obtain ⟨g, hg⟩ : ∃ g, g = wo.heap.size := ⟨_, rfl⟩
      rw [← hg] at HR3
      try rw [← hg]
      have HG := Lib.hid (show w.heap.size ≤ g ∧ G ≠ g by have := GL.out; have := HK.out.size; omega)
      clear hown hgrow hg k3
      -- the row and the number
      have lF := FL.out k hk
      have bF := FB.out k
      have NX := Lib.hid (FS.out k hlt)
      have br := RB.out k hlt
      obtain ⟨F, hF⟩ : ∃ F, F = fr T R k := ⟨_, rfl⟩
      rw [← hF] at HF3 lF bF NX
      obtain ⟨ad0, rfl, _, _⟩ := HA.out k (by have := HN.out; omega)
      obtain ⟨r, hr⟩ : ∃ r, r = R.getD k 0 := ⟨_, rfl⟩
      rw [← hr] at NX br
      have HRR := Lib.hid hr
      have HLF := Lib.hid lF
      have BF := Lib.hid (fun j => bF.at (by omega) j)
      have BN := Lib.hid (fun j i => Stu.nst_bd bF (by omega) br j i)
      have BR := Lib.hid br
      have NEXT := Lib.hid (show Mx.row M (Stu.nst F r m) = fr T R (k + 1) by
        rw [NX.out, ← Stu.nst_all, HLF.out, HMM.out, HM.out]; rfl)
      clear hF hr lF bF br NX
      go_wp2_with fail
      go_loopw [13] (fun i wr => ∃ j : Nat, j ≤ m ∧ i = .int .i64 (j : Int) ∧ Row wr g (Mx.row M (Stu.nst F r j)) ∧ Row wr G F ∧ Kp w wr) (fun i _ => m - (intOf i).toNat)
      case atStart =>
        refine ⟨0, Nat.zero_le _, rfl, ?_, HF3.out, HK3.out⟩
        have := HR3.out
        rw [Mx.row_rep] at this
        rw [show Mx.row M (Stu.nst F r 0) = Mx.row M fun _ => 0 from Mx.row_ext fun i _ => Stu.nst_zero F r i]
        exact this
      case round =>
        clear HR3 HF3 HK3
        obtain ⟨j, hj, rfl, r1, r2, kq⟩ := hrel
        have H1 := Lib.hid r1
        have H2 := Lib.hid r2
        have HQ := Lib.hid kq
        clear r1 r2 kq
        by_cases hjm : j < m
        · obtain ⟨q, hq⟩ : ∃ q : Nat, q = j + 1 := ⟨_, rfl⟩
          have qM : q < M := by have := HMM.out; omega
          have jM : j < M := by have := HMM.out; omega
          have hwq : IntKind.i64.wrap ((j : Int) + 1) = (q : Int) := by rw [hq]; exact IntWalk.i64_in _ (by omega)
          have HQJ := Lib.hid hq
          have y1 := H1.out.cell q (by rw [Mx.len_row]; exact qM)
          rw [Mx.row_at _ _ _ qM, hq, Stu.nst_next] at y1
          rw [← hq] at y1
          have y2 := H1.out.free q
          have y3 := H2.out.cell j (by rw [HLF.out, ← HM.out]; exact hjm)
          have bx := BF.out j
          obtain ⟨z, hz⟩ : ∃ z, z = F.getD j 0 := ⟨_, rfl⟩
          rw [← hz] at y3 bx
          have hw0 : IntKind.i64.wrap z = z := IntWalk.i64_in _ (by omega)
          have HZ := Lib.hid hz
          -- behind the first store
          obtain ⟨wn, hwn⟩ : ∃ wn, wn = (wr.setCell ⟨g, q, none⟩ (.int .i64 z)).drew := ⟨_, rfl⟩
          have kn : Kp w wn := by rw [hwn]; exact (HQ.out.put (p := ⟨g, q, none⟩) HG.out.1 _).drewN 1
          have rn : Row wn g (Mx.row M fun i => if i = q then z else Stu.nst F r j i) := by
            rw [hwn, ← Mx.row_set]
            exact (H1.out.put _ _).drewN 1
          have fn : Row wn G F := by
            rw [hwn]
            exact (H2.out.far (a := ⟨g, q, none⟩) HG.out.2 _).drewN 1
          have z1 := rn.cell j (by rw [Mx.len_row]; exact jM)
          rw [Mx.row_at _ _ _ jM, if_neg (by omega)] at z1
          have z2 := rn.free j
          have z3 := fn.cell j (by rw [HLF.out, ← HM.out]; exact hjm)
          rw [← hz] at z3
          obtain ⟨ad', e', _, z4⟩ := (HA.out.keep kn) k (by have := HN.out; omega)
          obtain rfl := Option.some.inj e'
          rw [← HRR.out] at z4
          have bu := BN.out j j
          obtain ⟨u, hu⟩ : ∃ u, u = Stu.nst F r j j := ⟨_, rfl⟩
          rw [← hu] at z1 bu
          have bp := Stu.prod_bd BR.out bx
          have hw1 : IntKind.i64.wrap (r * z) = r * z := IntWalk.i64_in _ (by omega)
          have hw2 : IntKind.i64.wrap (u - r * z) = u - r * z := IntWalk.i64_in _ (by omega)
          have KN := Lib.hid (show Kp w (wn.drew.setCell ⟨g, j, none⟩ (.int .i64 (u - r * z))) from (kn.drewN 1).put (p := ⟨g, j, none⟩) HG.out.1 _)
          have FN := Lib.hid (show Row (wn.drew.setCell ⟨g, j, none⟩ (.int .i64 (u - r * z))) G F from (fn.drewN 1).far (a := ⟨g, j, none⟩) HG.out.2 _)
          have RN := Lib.hid (show Row (wn.drew.setCell ⟨g, j, none⟩ (.int .i64 (u - r * z))) g (Mx.row M (Stu.nst F r (j + 1))) by
            have e : Mx.row M (Stu.nst F r (j + 1)) = Mx.row M fun i => if i = j then u - r * z else if i = q then z else Stu.nst F r j i := Mx.row_ext fun i _ => by
              rw [Stu.nst_step, ← hu, ← hz, hq]
            rw [e, ← Mx.row_set]
            exact (rn.drewN 1).put _ _)
          have HWN := Lib.hid hwn
          clear hq hz kn rn fn bu bp bx hu e' hwn
          go_wp2_with fail
          go_still_tail 14, (by kernel_rfl)
          change wpList _ _ _ _ _ wr.drew
          go_wp2_with fail
          rw [← HWN.out]
          go_still_tail 17, (by kernel_rfl)
          change wpList _ _ _ _ _ wn.drew
          go_wp2_with fail
          go_roundw
          case rel => exact ⟨q, by have := HQJ.out; omega, rfl, by rw [show Stu.nst F r q = Stu.nst F r (j + 1) by rw [HQJ.out]]; exact RN.out, FN.out, KN.out⟩
          case measure => have := HQJ.out; simp [intOf]; omega
        · obtain rfl : j = m := by omega
          have HF := Lib.hid (show Row wr g (fr T R (k + 1)) by rw [← NEXT.out]; exact H1.out)
          clear H1 hjm
          go_wp2_with fail
          go_roundw
          case rel => exact ⟨k + 1, M, g, by omega, by have := HMM.out; have := HM.out; omega, by go_num, rfl, HG.out.1, HF.out, HQ.out⟩
          case measure => simp [intOf]; omega
    · obtain rfl : k = n := by omega
      rw [← HM.out] at WH
      have lf := FL.out k (Nat.le_refl _)
      rw [← HM.out] at lf
      obtain ⟨F, hF⟩ : ∃ F, F = fr T R k := ⟨_, rfl⟩
      rw [← hF] at WH TOLD NB HR lf
      have LF := Lib.hid lf
      clear hF hlt hk FS FL FB RB lf
      rcases WH.out with s | hu
      · obtain ⟨TA, TB⟩ := TOLD.out
        have AO := Lib.hid (UAll_ok (some ⟨G, 0, none⟩) F m m wo HR.out.lies s (Nat.le_refl _))
        rw [TB] at AO
        have CY := Lib.hid (fun (h : -100 ≤ x ∧ x ≤ 100 ∧ x ≤ y ∧ y ≤ 100) (w' : World) (k' : Kp wo w') => UCount_told (some ⟨G, 0, none⟩) F m m x y w' (HR.out.lies.keep k') s (Nat.le_refl _) h)
        have CN := Lib.hid (fun (h : ¬ (-100 ≤ x ∧ x ≤ 100 ∧ x ≤ y ∧ y ≤ 100)) (w' : World) (k' : Kp wo w') => UCount_off (some ⟨G, 0, none⟩) F m m x y w' (HR.out.lies.keep k') s h)
        rw [errOf_ne 1 (by decide)] at CN
        have HTA := Lib.hid (TA x y)
        clear s TOLD WH NB HR TA TB
        go_wp2_with fail
        refine (AO.out).mono ?_; rintro e w4 ⟨rfl, k4⟩
        have K4 := Lib.hid k4
        have K5 := Lib.hid (HK.out.trans k4)
        clear k4 AO
        obtain ⟨D, hD⟩ : ∃ D, D = (Stu.dd R).length := ⟨_, rfl⟩
        rw [← hD]
        have HD := Lib.hid hD
        clear hD
        go_wp2_with fail
        go_loopw [16, 17, 18] (fun a b i wr => ∃ j p q : Nat, j ≤ k ∧ i = .int .i64 (j : Int) ∧ a = .int .i64 (p : Int) ∧ b = .int .i64 (q : Int) ∧ p = Stu.cn (Stu.dd (R.take j)) x y ∧ q = (Stu.dd (R.take j)).length ∧ Drew w4 wr) (fun _ _ i _ => k - (intOf i).toNat)
        case atStart => exact ⟨0, 0, 0, Nat.zero_le _, rfl, rfl, rfl, rfl, rfl, Drew.refl _⟩
        case round =>
          obtain ⟨j, p, q, hj, rfl, rfl, rfl, hp, hq, hdr⟩ := hrel
          have HDR := Lib.hid hdr
          have HA2 := Lib.hid (HA.out.keep (K5.out.trans hdr.kp))
          clear hdr
          have q4 : q ≤ j := by
            rw [hq]
            exact Nat.le_trans (Stu.dd_len _) (by rw [List.length_take]; omega)
          have p4 : p ≤ q := by rw [hp, hq]; exact Stu.cn_le _ _ _
          have HP := Lib.hid hp
          have HQ := Lib.hid hq
          clear hp hq
          by_cases hjk : j < k
          · have CT := Lib.hid (fun (t : Nat) => refHas_any A R j d (R.getD j 0) (wr.drewN t) (HA2.out.keep ((Kp.rfl' wr).drewN t)) (by have := HN.out; omega) (by omega))
            obtain ⟨ad, rfl, _, c1⟩ := HA2.out j (by have := HN.out; omega)
            have jd : j ≤ d := by omega
            obtain ⟨S1, S2⟩ := DD.out j hjk
            have HS1 := Lib.hid S1
            have HS2 := Lib.hid S2
            have SN := Lib.hid (fun D => Stu.cn_snoc D (R.getD j 0) (x : Rat) (y : Rat))
            have BT := Lib.hid (between (R.getD j 0) x y)
            obtain ⟨r, hr⟩ : ∃ r, r = R.getD j 0 := ⟨_, rfl⟩
            rw [← hr] at CT c1 HS1 HS2 SN BT
            clear hr S1 S2
            by_cases ho : Occurs R j r
            · have CC := Lib.hid (show ∀ t, Calls Try.prog 12 #[.slice (some ad) j d, .int .i64 r] (wr.drewN t) fun e w' => e = .returned (.bool true) ∧ wr.drewN t = w' from fun t => (CT.out t).mono fun e w' ⟨h1, h2⟩ => ⟨tells_yes h1 ho, h2⟩)
              have E := Lib.hid (HS1.out ho)
              clear ho
              go_wp2_with fail
              go_quiet ((first
                | (with_reducible exact quiet_here (CC.out _))))
              go_wp2_with fail
              go_roundw
              case rel => exact ⟨j + 1, p, q, by omega, by go_num, rfl, rfl, by rw [E.out]; exact HP.out, by rw [E.out]; exact HQ.out, HDR.out.more _⟩
              case measure => simp [intOf]; omega
            · have CC := Lib.hid (show ∀ t, Calls Try.prog 12 #[.slice (some ad) j d, .int .i64 r] (wr.drewN t) fun e w' => e = .returned (.bool false) ∧ wr.drewN t = w' from fun t => (CT.out t).mono fun e w' ⟨h1, h2⟩ => ⟨tells_no h1 ho, h2⟩)
              have E := Lib.hid (HS2.out ho)
              have EQ := Lib.hid (show q + 1 = (Stu.dd (R.take (j + 1))).length by rw [E.out, List.length_append, ← HQ.out]; rfl)
              clear ho
              by_cases g1 : x < r
              · by_cases g2 : r ≤ y
                · have EP := Lib.hid (show p + 1 = Stu.cn (Stu.dd (R.take (j + 1))) x y by rw [E.out, SN.out, if_pos (BT.out.2 ⟨g1, g2⟩), ← HP.out])
                  go_wp2_with fail
                  go_quiet ((first
                    | (with_reducible exact quiet_here (CC.out _))))
                  go_wp2_with fail
                  go_roundw
                  case rel => exact ⟨j + 1, p + 1, q + 1, by omega, by go_num, by go_num, by go_num, EP.out, EQ.out, HDR.out.more _⟩
                  case measure => simp [intOf]; omega
                · have EP := Lib.hid (show p = Stu.cn (Stu.dd (R.take (j + 1))) x y by rw [E.out, SN.out, if_neg (fun e => g2 (BT.out.1 e).2), ← HP.out, Nat.add_zero])
                  go_wp2_with fail
                  go_quiet ((first
                    | (with_reducible exact quiet_here (CC.out _))))
                  go_wp2_with fail
                  go_roundw
                  case rel => exact ⟨j + 1, p, q + 1, by omega, by go_num, rfl, by go_num, EP.out, EQ.out, HDR.out.more _⟩
                  case measure => simp [intOf]; omega
              · have EP := Lib.hid (show p = Stu.cn (Stu.dd (R.take (j + 1))) x y by rw [E.out, SN.out, if_neg (fun e => g1 (BT.out.1 e).1), ← HP.out, Nat.add_zero])
                go_wp2_with fail
                go_quiet ((first
                  | (with_reducible exact quiet_here (CC.out _))))
                go_wp2_with fail
                go_roundw
                case rel => exact ⟨j + 1, p, q + 1, by omega, by go_num, rfl, by go_num, EP.out, EQ.out, HDR.out.more _⟩
                case measure => simp [intOf]; omega
          · obtain rfl : j = k := by omega
            have TK := Lib.hid (show R.take j = R from List.take_of_length_le (by rw [HN.out]; exact Nat.le_refl _))
            have EQ := Lib.hid (show D = q by rw [HD.out, HQ.out, TK.out])
            have EP := Lib.hid (show (p : Int) = (Stu.cn (Stu.dd R) x y : Int) by rw [HP.out, TK.out])
            have eqd : ((D : Int) == (q : Int)) = true := by rw [EQ.out]; simp
            have eqn : (D : Int) = (q : Int) := by rw [EQ.out]
            by_cases hr : -100 ≤ x ∧ x ≤ 100 ∧ x ≤ y ∧ y ≤ 100
            · have C := Lib.hid (CY.out hr wr (K4.out.trans HDR.out.kp))
              rw [HTA.out hr.2.2.1, ← EP.out] at C
              clear hr hjk
              go_wp2_with fail
              refine (C.out).mono ?_; rintro e w6 ⟨rfl, k6⟩
              have K6 := Lib.hid ((K5.out.trans HDR.out.kp).trans k6)
              clear k6
              go_wp2_with fail
              go_ret
              exact ⟨rfl, K6.out⟩
            · have C := Lib.hid (CN.out hr wr (K4.out.trans HDR.out.kp))
              have I1 := Lib.hid (fun w => law3In_any x (-100) 100 w (decide (-100 ≤ x) && decide (x ≤ 100)) rfl)
              have I2 := Lib.hid (fun w => law3In_any y x 100 w (decide (x ≤ y) && decide (y ≤ 100)) rfl)
              by_cases g : -100 ≤ x ∧ x ≤ 100
              · rw [decide_eq_true g.1, decide_eq_true g.2] at I1
                rw [show (decide (x ≤ y) && decide (y ≤ 100)) = false by
                  by_cases q1 : x ≤ y
                  · rw [decide_eq_false (show ¬ y ≤ 100 from fun q2 => hr ⟨g.1, g.2, q1, q2⟩), Bool.and_false]
                  · rw [decide_eq_false q1]; rfl] at I2
                clear hr hjk g
                go_wp2_with fail
                refine (C.out).mono ?_; rintro e w6 ⟨rfl, k6⟩
                have K6 := Lib.hid ((K5.out.trans HDR.out.kp).trans k6)
                clear k6
                go_wp2_with fail
                refine (I1.out _).mono ?_; rintro e w7 ⟨rfl, rfl⟩
                go_wp2_with fail
                refine (I2.out _).mono ?_; rintro e w7 ⟨rfl, rfl⟩
                go_wp2_with fail
                go_ret
                exact ⟨rfl, K6.out⟩
              · rw [show (decide (-100 ≤ x) && decide (x ≤ 100)) = false by
                  by_cases q1 : -100 ≤ x
                  · rw [decide_eq_false (show ¬ x ≤ 100 from fun q2 => g ⟨q1, q2⟩), Bool.and_false]
                  · rw [decide_eq_false q1]; rfl] at I1
                clear hr hjk g
                go_wp2_with fail
                refine (C.out).mono ?_; rintro e w6 ⟨rfl, k6⟩
                have K6 := Lib.hid ((K5.out.trans HDR.out.kp).trans k6)
                clear k6
                go_wp2_with fail
                refine (I1.out _).mono ?_; rintro e w7 ⟨rfl, rfl⟩
                go_wp2_with fail
                go_ret
                exact ⟨rfl, K6.out⟩
      · have AB := Lib.hid (show Calls Try.prog 11 #[.slice (some ⟨G, 0, none⟩) m m] wo (fun e w' => e = .returned (.tuple #[.int .i64 0, errOf (ucd F)]) ∧ Kp wo w') by
          have := UAll_bad (some ⟨G, 0, none⟩) F m wo HR.out.lies hu
          rwa [LF.out] at this)
        rw [errOf_ne _ hu] at AB
        have AF := Lib.hid (show ∀ w' : World, Kp wo w' → Calls Try.prog 9 #[.slice (some ⟨G, 0, none⟩) m m, .int .i64 (-20), .int .i64 20] w' (fun e w'' => e = .returned (.bool false) ∧ w' = w'') from fun w' k' => by
          have := all_any (some ⟨G, 0, none⟩) F m (-20) 20 w' (HR.out.lies.keep k') (by rw [LF.out]; omega)
          rw [LF.out] at this
          exact this.mono fun e w'' ⟨ht, hw⟩ => ⟨tells_no ht (NB.out hu), hw⟩)
        generalize ucd F = c at *
        clear hu TOLD WH NB HR
        go_wp2_with fail
        refine (AB.out).mono ?_; rintro e w4 ⟨rfl, k4⟩
        have K4 := Lib.hid k4
        have K5 := Lib.hid (HK.out.trans k4)
        clear k4 AB
        go_wp2_with fail
        refine (AF.out _ K4.out).mono ?_; rintro e w5 ⟨rfl, rfl⟩
        go_wp2_with fail
        go_ret
        exact ⟨rfl, K5.out⟩

theorem walk_SturmRoots (A : Option Addr) (R : List Int) (d : Nat) (T x y : Int) (w : World) (ha : Lies w A R) (hd : R.length ≤ d) :
    Calls Try.prog 3 #[.slice A R.length d, .int .i64 T, .int .i64 x, .int .i64 y] w fun e w' => e = .returned (.bool true) ∧ Kp w w' := by
  by_cases h : R.length ≤ 3 ∧ AllIn R (-20) 20 ∧ (-20 ≤ T ∧ T ≤ 20) ∧ T ≠ 0
  · exact roots_in A R R.length d T x y w ha rfl hd h.1 h.2.1 h.2.2.1 h.2.2.2
  · exact roots_out A R d T x y w ha h

end Go.Proofs.Ytbdpcpodmmhjaaa
