/- Several texts, one behind the other: SmTurn. -/
import Derived.Test.YtmimbioffnolaaaSmithTurnProofG3

/- The law SmithTurn. -/
namespace Go.Proofs.Ytmimbioffnolaaa
open Go.ChangeShapes Go.WideShapes Go.ChangeAt Go.RowKit
set_option linter.unusedVariables false

theorem hm_flip {n : Nat} {x : Nat → Nat → Int} {m : List (List Int)} (s : Hm n x m) : Hm n (Zx.flip x) (Mx.tab n n (Zx.flip x)) :=
  ⟨⟨rfl, s.sh.n0, s.sh.n3, fun i j hi hj => s.sh.ab j i hj hi⟩, by rw [Zx.dt_flip]; exact s.ne⟩
/-- The last part: from 1 to the determinant. -/
theorem last_small {n : Nat} {x : Nat → Nat → Int} {m : List (List Int)} (s : Hm n x m) {q : Nat} (hq : q + 1 = n) : 1 ≤ (Zx.spp n x).getD q 0 ∧ (Zx.spp n x).getD q 0 ≤ 48000 := by
  have PT := Zx.spp_pts s.sh.n0 s.sh.n3 s.ne
  have TW := Zx.dt_twenty s.sh.n3 s.sh.small
  unfold Zx.ab at TW
  have h1 := PT.pos q (by omega)
  have h2 := prz_pos (g := fun i => (Zx.spp n x).getD i 0) (k := q) fun i hi => PT.pos i (by omega)
  have h3 := PT.prod
  have h4 : (Zx.pr n fun i => (Zx.spp n x).getD i 0) = Zx.pr q (fun i => (Zx.spp n x).getD i 0) * (Zx.spp n x).getD q 0 := by rw [← hq]; rfl
  rw [h4] at h3
  have h5 := Int.mul_le_mul h2 (Int.le_refl ((Zx.spp n x).getD q 0)) (by omega) (by omega)
  exact ⟨h1, by omega⟩
theorem turn_times {a b : Int} (ha : -100 ≤ a ∧ a ≤ 100) (hb : 1 ≤ b ∧ b ≤ 48000) : -4800000 ≤ a * b ∧ a * b ≤ 4800000 := by
  have h : (a * b).natAbs ≤ 100 * 48000 := by
    rw [Int.natAbs_mul]
    exact Nat.mul_le_mul (by omega) (by omega)
  omega
set_option maxRecDepth 100000 in
set_option maxHeartbeats 3200000 in
theorem walk_SmithTurn_in {n : Nat} {x : Nat → Nat → Int} {m : List (List Int)} (s : Hm n x m) (A B : Option Addr) (l : List Int) (c d : Nat) (w : World) (ha : LiesM w A m) (hb : Lies w B l) (hl : l.length = n) (hx : AllIn l (-100) 100) :
    Calls Try.prog 4 #[.slice A n c, .slice B n d] w fun e w' => e = .returned (.bool true) ∧ Kp w w' := by
  have HA := Lib.hid ha
  have HB := Lib.hid hb
  have FA := Lib.hid (smithFact_any w)
  have OA := Lib.hid (fun w h => Parts_ok s A c w h)
  have n3 := s.sh.n3
  have n0 := s.sh.n0
  obtain ⟨q, hq⟩ : ∃ q, q + 1 = n := ⟨n - 1, by omega⟩
  have FL := Lib.hid (fun w' (k : Kp w w') => rFlipZ_any A x n n c w' (show LiesM w' A (Mx.tab n n x) from by rw [← s.sh.eq]; exact ha.keep k) n0 (by omega) (by omega))
  have OF := Lib.hid (fun (A' : Option Addr) (c' : Nat) (w : World) (h : LiesM w A' (Mx.tab n n (Zx.flip x))) => (show Calls Try.prog 7 #[.slice A' n c'] w fun e w' => ∃ g, e = .returned (.tuple #[.slice (some ⟨g, 0, none⟩) n n, .nilIface]) ∧ Row w' g (Zx.spp n x) ∧ w.heap.size ≤ g ∧ Kp w w' from
    (Parts_ok (hm_flip s) A' c' w h).mono fun e w' ⟨g, h1, h2, h3, h4⟩ => ⟨g, h1, by rw [Zx.spp_flip n x n0 n3] at h2; exact h2, h3, h4⟩))
  have LNS := Lib.hid (Zx.spp_pts n0 n3 s.ne).len
  have LS := last_small s hq
  have AL := Lib.hid (fun w' (k : Kp w w') => show Calls Try.prog 15 #[.slice B n d, .int .i64 (-100), .int .i64 100] w' fun e w'' => e = .returned (.bool true) ∧ w' = w'' from by
    have := all_any B l d (-100) 100 w' (hb.keep k) (by omega)
    rw [hl] at this
    exact this.mono fun e w' ⟨ht, h2⟩ => ⟨tells_yes ht hx, h2⟩)
  obtain ⟨xv, hxv⟩ : ∃ xv : Nat → Int, xv = fun t => l.getD t 0 := ⟨_, rfl⟩
  have XB := Lib.hid (show ∀ t, t < n → -100 ≤ xv t ∧ xv t ≤ 100 from fun t ht => by rw [hxv]; exact hx t (by omega))
  have XC := Lib.hid (fun w' (k : Kp w w') (t : Nat) (ht : t < n) => show ∃ ad, B = some ad ∧ w'.cell? (ad.add t) = some (.int .i64 (xv t)) from by
    obtain ⟨ad, e, _, hc⟩ := (hb.keep k) t (by omega)
    exact ⟨ad, e, by rw [hxv]; exact hc⟩)
  obtain ⟨p, hp⟩ : ∃ p, p = (Zx.spp n x).getD q 0 := ⟨_, rfl⟩
  rw [← hp] at LS
  have RC := Lib.hid (fun (w' : World) (g : Nat) (h : Row w' g (Zx.spp n x)) => show w'.cell? ⟨g, q, none⟩ = some (.int .i64 p) from by
    rw [hp]; exact h.cell q (by have := LNS.out; omega))
  obtain ⟨g2, hg2⟩ : ∃ g2 : Nat → Int, g2 = fun t => xv t * p := ⟨_, rfl⟩
  have GAT := Lib.hid (show ∀ t, xv t * p = g2 t from fun t => by rw [hg2])
  have GL := Lib.hid (show Zx.Lat n x g2 from (Zx.spp_last n0 n3 s.ne xv).congr fun t _ => by
    rw [hg2, hp, ← hq]
    show (Zx.spp (q + 1) x).getD (q + 1 - 1) 0 * xv t = xv t * (Zx.spp (q + 1) x).getD q 0
    rw [Nat.add_sub_cancel]; grind)
  have ROW := Lib.hid (show Zx.Lat n x (fun t => (Mx.row n g2).getD t 0) from GL.out.congr fun t ht => (Mx.row_at _ _ _ ht).symm)
  have SUM := Lib.hid (fun (w : World) (B' : Option Addr) (d' : Nat) (h : LiesM w A m) (hb : Lies w B' (Mx.row n g2)) (hin : AllIn (Mx.row n g2) (-100) 100) => (show Calls Try.prog 16 #[.slice A n c, .slice B' n d'] w fun e w' => e = .returned (.tuple #[.bool true, .nilIface]) ∧ Kp w w' from
    (Has_ok s A B' (Mx.row n g2) c d' w h hb (Mx.len_row _ _) hin).mono fun e w' ⟨b, h1, h2, h3⟩ => by
      obtain rfl : b = true := h1.2 ROW.out
      exact ⟨h2, h3⟩))
  have NOS := Lib.hid (fun (w : World) (B' : Option Addr) (d' : Nat) (h : LiesM w A m) (hb : Lies w B' (Mx.row n g2)) (hin : ¬ AllIn (Mx.row n g2) (-100) 100) => (show Calls Try.prog 16 #[.slice A n c, .slice B' n d'] w fun e w' => e = .returned (.tuple #[.bool false, .iface 51 (.int .i64 ((1 : Nat) : Int))]) ∧ Kp w w' from by
    have := Has_range s A B' (Mx.row n g2) c d' w h hb (Mx.len_row _ _) hin
    rw [errOf_ne 1 (by decide)] at this
    exact this))
  have IN1 := Lib.hid (fun w => law4In_any p 1 100000 w true (by simp; omega))
  have hw1 : IntKind.i64.wrap ((n : Int) - 1) = (q : Int) := by rw [← hq, Int.natCast_add, show ((q : Int) + ((1 : Nat) : Int)) - 1 = (q : Int) by omega]; exact IntWalk.i64_in _ (by omega)
  have hqn : q < n := by omega
  have e8 : ((n : Int) != (n : Int)) = false := by simp
  have SL := Lib.hid (show (Zx.spp n x).length = n from LNS.out)
  have PB := Lib.hid LS
  have MODE := Lib.hid (fun (g g' : Nat) (w : World) (h : Row w g (Zx.spp n x)) (h' : Row w g' (Zx.spp n x)) => same_eq (some ⟨g', 0, none⟩) (some ⟨g, 0, none⟩) (Zx.spp n x) (Zx.spp n x) n n n n w h'.lies h.lies SL.out.symm SL.out.symm (by omega) rfl)
  clear ha hb s hg2 hp hxv hq hl hx LS LNS GL ROW
  go_enter Try.func4, Try.ntmps4
  go_wp2_with fail
  refine (FA.out).mono ?_; rintro e w1 ⟨rfl, k1⟩
  have K1 := Lib.hid k1; clear k1
  go_wp2_with fail
  refine (OA.out w1 (HA.out.keep K1.out)).mono ?_; rintro e w2 ⟨g, rfl, hr, hg, k2⟩
  have HR := Lib.hid hr
  have K2 := Lib.hid (K1.out.trans k2)
  clear k2 hr hg
  go_wp2_with fail
  refine (FL.out w2 K2.out).mono ?_; rintro e w3 ⟨A3, d3, rfl, l3, k3⟩
  have O3 := Lib.hid (OF.out A3 d3 w3 l3)
  have K3 := Lib.hid (K2.out.trans k3)
  have HR3 := Lib.hid (HR.out.keep k3)
  clear k3 l3 HR
  go_wp2_with fail
  refine (O3.out).mono ?_; rintro e w4 ⟨g', rfl, hr', hg', k4⟩
  have EQ := Lib.hid (MODE.out g g' w4 (HR3.out.keep k4) hr')
  have K4 := Lib.hid (K3.out.trans k4)
  have HR4 := Lib.hid (HR3.out.keep k4)
  clear k4 hr' hg' HR3 O3
  go_wp2_with fail
  refine (EQ.out).mono ?_; rintro e w5 ⟨rfl, k5⟩
  have K5 := Lib.hid (K4.out.trans k5)
  have HR5 := Lib.hid (HR4.out.keep k5)
  clear k5 HR4 EQ
  go_wp2_with fail
  refine (AL.out w5 K5.out).mono ?_; rintro e w6 ⟨rfl, rfl⟩
  go_wp2_with fail
  go_loopw [9, 10] (fun v t wr => ∃ k : Nat, k ≤ n ∧ t = .int .i64 (k : Int) ∧ Own wr w5.heap.size v (Mx.row k g2) ∧ Kp w5 wr) (fun _ t _ => n - (intOf t).toNat)
  case atStart => exact ⟨0, Nat.zero_le _, rfl, Own.none _ _, Kp.rfl' _⟩
  case round =>
    obtain ⟨k, hk, rfl, ho, hkp⟩ := hrel
    have HO := Lib.hid ho
    have HK := Lib.hid hkp
    by_cases hlt : k < n
    · obtain ⟨ad, rfl, x1⟩ := XC.out wr (K5.out.trans hkp) k hlt
      have x2 := RC.out wr g (HR5.out.keep hkp)
      have HG := Lib.hid (GAT.out k)
      have HS := Lib.hid (Mx.row_snoc k g2)
      have tt := turn_times (XB.out k hlt) PB.out
      have hlen : (Mx.row k g2).length + 1 ≤ 17000000000000 := by rw [Mx.len_row]; omega
      have hsz := hkp.size
      have hw3 : IntKind.i64.wrap (xv k * p) = g2 k := by rw [← HG.out]; exact IntWalk.i64_in _ (by omega)
      clear ho hkp tt
      go_wp2_with fail
      refine (IN1.out _).mono ?_; rintro e w7 ⟨rfl, rfl⟩
      go_wp2_with fail
      go_region_law (refine step_push (by rfl) _ _ (by rfl) w5.heap.size _ (Mx.row k g2) (g2 k) _ 1 (by rfl) (by rfl) ((HO.out.drewN 1).new _) (by simp; done) hlen (Nat.le_trans hsz ((Kp.rfl' wr).new _).size) ?_; intro v' w' h1 h2 _; have HO' := Lib.hid h1; have HK' := Lib.hid (own_below ((HO.out.drewN 1).new (.cells #[.int .i64 (g2 k)] 3)) ((HK.out.drewN 1).new _) (Nat.le_trans hsz ((Kp.rfl' wr).new _).size) h2); clear h1 h2)
      all_goals
        go_wp2_with fail
        go_roundw
        case rel => exact ⟨k + 1, by omega, by go_num, by rw [HS.out]; exact HO'.out, HK'.out⟩
        case measure => simp [intOf]; omega
    · obtain rfl : n = k := by omega
      obtain ⟨As, cs, rfl, hls, _⟩ := ho.cap
      rw [Mx.len_row]
      have LS := Lib.hid hls
      have K6 := Lib.hid (K5.out.trans hkp)
      by_cases hin : AllIn (Mx.row n g2) (-100) 100
      · have SU := Lib.hid (SUM.out wr As cs (HA.out.keep K6.out) hls hin)
        clear ho hkp hls HO hin
        go_wp2_with fail
        refine (SU.out).mono ?_; rintro e w8 ⟨rfl, k8⟩
        have K8 := Lib.hid (K6.out.trans k8)
        clear k8
        go_wp2_with fail
        go_ret
        exact ⟨rfl, K8.out⟩
      · have SU := Lib.hid (NOS.out wr As cs (HA.out.keep K6.out) hls hin)
        have AL2 := Lib.hid (fun w' (k : Kp wr w') => show Calls Try.prog 15 #[.slice As n cs, .int .i64 (-100), .int .i64 100] w' fun e w'' => e = .returned (.bool false) ∧ w' = w'' from by
          have := all_any As (Mx.row n g2) cs (-100) 100 w' (LS.out.keep k) (by rw [Mx.len_row]; omega)
          rw [Mx.len_row] at this
          exact this.mono fun e w' ⟨ht, h2⟩ => ⟨tells_no ht hin, h2⟩)
        clear ho hkp hls HO hin
        go_wp2_with fail
        refine (SU.out).mono ?_; rintro e w8 ⟨rfl, k8⟩
        have K8 := Lib.hid k8
        clear k8
        go_wp2_with fail
        refine (AL2.out w8 K8.out).mono ?_; rintro e w9 ⟨rfl, rfl⟩
        go_wp2_with fail
        go_ret
        exact ⟨rfl, K6.out.trans K8.out⟩
set_option maxRecDepth 100000 in
set_option maxHeartbeats 1600000 in
theorem walk_SmithTurn_len {n : Nat} {x : Nat → Nat → Int} {m : List (List Int)} (s : Hm n x m) (A B : Option Addr) (p c d : Nat) (w : World) (ha : LiesM w A m) (hl : p ≠ n) :
    Calls Try.prog 4 #[.slice A n c, .slice B p d] w fun e w' => e = .returned (.bool true) ∧ Kp w w' := by
  have HA := Lib.hid ha
  have FA := Lib.hid (smithFact_any w)
  have OA := Lib.hid (fun w h => Parts_ok s A c w h)
  have n3 := s.sh.n3
  have n0 := s.sh.n0
  have FL := Lib.hid (fun w' (k : Kp w w') => rFlipZ_any A x n n c w' (show LiesM w' A (Mx.tab n n x) from by rw [← s.sh.eq]; exact ha.keep k) n0 (by omega) (by omega))
  have OF := Lib.hid (fun (A' : Option Addr) (c' : Nat) (w : World) (h : LiesM w A' (Mx.tab n n (Zx.flip x))) => (show Calls Try.prog 7 #[.slice A' n c'] w fun e w' => ∃ g, e = .returned (.tuple #[.slice (some ⟨g, 0, none⟩) n n, .nilIface]) ∧ Row w' g (Zx.spp n x) ∧ w.heap.size ≤ g ∧ Kp w w' from
    (Parts_ok (hm_flip s) A' c' w h).mono fun e w' ⟨g, h1, h2, h3, h4⟩ => ⟨g, h1, by rw [Zx.spp_flip n x n0 n3] at h2; exact h2, h3, h4⟩))
  have SL := Lib.hid (Zx.spp_pts n0 n3 s.ne).len
  have MODE := Lib.hid (fun (g g' : Nat) (w : World) (h : Row w g (Zx.spp n x)) (h' : Row w g' (Zx.spp n x)) => same_eq (some ⟨g', 0, none⟩) (some ⟨g, 0, none⟩) (Zx.spp n x) (Zx.spp n x) n n n n w h'.lies h.lies SL.out.symm SL.out.symm (by omega) rfl)
  have e8 : ((p : Int) != (n : Int)) = true := by rw [bne_iff_ne]; omega
  have e9 : ((n : Int) != (n : Int)) = false := by simp
  clear ha s hl
  go_enter Try.func4, Try.ntmps4
  go_wp2_with fail
  refine (FA.out).mono ?_; rintro e w1 ⟨rfl, k1⟩
  have K1 := Lib.hid k1; clear k1
  go_wp2_with fail
  refine (OA.out w1 (HA.out.keep K1.out)).mono ?_; rintro e w2 ⟨g, rfl, hr, hg, k2⟩
  have HR := Lib.hid hr
  have K2 := Lib.hid (K1.out.trans k2)
  clear k2 hr hg
  go_wp2_with fail
  refine (FL.out w2 K2.out).mono ?_; rintro e w3 ⟨A3, d3, rfl, l3, k3⟩
  have O3 := Lib.hid (OF.out A3 d3 w3 l3)
  have K3 := Lib.hid (K2.out.trans k3)
  have HR3 := Lib.hid (HR.out.keep k3)
  clear k3 l3 HR
  go_wp2_with fail
  refine (O3.out).mono ?_; rintro e w4 ⟨g', rfl, hr', hg', k4⟩
  have EQ := Lib.hid (MODE.out g g' w4 (HR3.out.keep k4) hr')
  have K4 := Lib.hid (K3.out.trans k4)
  clear k4 hr' hg' HR3 O3
  go_wp2_with fail
  refine (EQ.out).mono ?_; rintro e w5 ⟨rfl, k5⟩
  have K5 := Lib.hid (K4.out.trans k5)
  clear k5 EQ
  go_wp2_with fail
  go_ret
  exact ⟨rfl, K5.out⟩
set_option maxRecDepth 100000 in
set_option maxHeartbeats 1600000 in
theorem walk_SmithTurn_far {n : Nat} {x : Nat → Nat → Int} {m : List (List Int)} (s : Hm n x m) (A B : Option Addr) (l : List Int) (c d : Nat) (w : World) (ha : LiesM w A m) (hb : Lies w B l) (hl : l.length = n) (hx : ¬ AllIn l (-100) 100) :
    Calls Try.prog 4 #[.slice A n c, .slice B n d] w fun e w' => e = .returned (.bool true) ∧ Kp w w' := by
  have HA := Lib.hid ha
  have FA := Lib.hid (smithFact_any w)
  have OA := Lib.hid (fun w h => Parts_ok s A c w h)
  have n3 := s.sh.n3
  have n0 := s.sh.n0
  have FL := Lib.hid (fun w' (k : Kp w w') => rFlipZ_any A x n n c w' (show LiesM w' A (Mx.tab n n x) from by rw [← s.sh.eq]; exact ha.keep k) n0 (by omega) (by omega))
  have OF := Lib.hid (fun (A' : Option Addr) (c' : Nat) (w : World) (h : LiesM w A' (Mx.tab n n (Zx.flip x))) => (show Calls Try.prog 7 #[.slice A' n c'] w fun e w' => ∃ g, e = .returned (.tuple #[.slice (some ⟨g, 0, none⟩) n n, .nilIface]) ∧ Row w' g (Zx.spp n x) ∧ w.heap.size ≤ g ∧ Kp w w' from
    (Parts_ok (hm_flip s) A' c' w h).mono fun e w' ⟨g, h1, h2, h3, h4⟩ => ⟨g, h1, by rw [Zx.spp_flip n x n0 n3] at h2; exact h2, h3, h4⟩))
  have SL := Lib.hid (Zx.spp_pts n0 n3 s.ne).len
  have MODE := Lib.hid (fun (g g' : Nat) (w : World) (h : Row w g (Zx.spp n x)) (h' : Row w g' (Zx.spp n x)) => same_eq (some ⟨g', 0, none⟩) (some ⟨g, 0, none⟩) (Zx.spp n x) (Zx.spp n x) n n n n w h'.lies h.lies SL.out.symm SL.out.symm (by omega) rfl)
  have AL := Lib.hid (fun w' (k : Kp w w') => show Calls Try.prog 15 #[.slice B n d, .int .i64 (-100), .int .i64 100] w' fun e w'' => e = .returned (.bool false) ∧ w' = w'' from by
    have := all_any B l d (-100) 100 w' (hb.keep k) (by omega)
    rw [hl] at this
    exact this.mono fun e w' ⟨ht, h2⟩ => ⟨tells_no ht hx, h2⟩)
  have e9 : ((n : Int) != (n : Int)) = false := by simp
  clear ha hb s hl hx
  go_enter Try.func4, Try.ntmps4
  go_wp2_with fail
  refine (FA.out).mono ?_; rintro e w1 ⟨rfl, k1⟩
  have K1 := Lib.hid k1; clear k1
  go_wp2_with fail
  refine (OA.out w1 (HA.out.keep K1.out)).mono ?_; rintro e w2 ⟨g, rfl, hr, hg, k2⟩
  have HR := Lib.hid hr
  have K2 := Lib.hid (K1.out.trans k2)
  clear k2 hr hg
  go_wp2_with fail
  refine (FL.out w2 K2.out).mono ?_; rintro e w3 ⟨A3, d3, rfl, l3, k3⟩
  have O3 := Lib.hid (OF.out A3 d3 w3 l3)
  have K3 := Lib.hid (K2.out.trans k3)
  have HR3 := Lib.hid (HR.out.keep k3)
  clear k3 l3 HR
  go_wp2_with fail
  refine (O3.out).mono ?_; rintro e w4 ⟨g', rfl, hr', hg', k4⟩
  have EQ := Lib.hid (MODE.out g g' w4 (HR3.out.keep k4) hr')
  have K4 := Lib.hid (K3.out.trans k4)
  clear k4 hr' hg' HR3 O3
  go_wp2_with fail
  refine (EQ.out).mono ?_; rintro e w5 ⟨rfl, k5⟩
  have K5 := Lib.hid (K4.out.trans k5)
  clear k5 EQ
  go_wp2_with fail
  refine (AL.out w5 K5.out).mono ?_; rintro e w6 ⟨rfl, rfl⟩
  go_wp2_with fail
  go_ret
  exact ⟨rfl, K5.out⟩
set_option maxRecDepth 100000 in
set_option maxHeartbeats 1600000 in
theorem walk_SmithTurn (A : Option Addr) (m : List (List Int)) (c : Nat) (B : Option Addr) (l : List Int) (d : Nat) (w : World) (ha : LiesM w A m) (hb : Lies w B l) :
    Calls Try.prog 4 #[.slice A m.length c, .slice B l.length d] w fun e w' => e = .returned (.bool true) ∧ Kp w w' := by
  obtain ⟨n, hn⟩ : ∃ n, n = m.length := ⟨_, rfl⟩
  rw [← hn]
  rcases Parts_or A m n c hn.symm with ⟨x, s⟩ | bad
  · by_cases hl : l.length = n
    · by_cases hx : AllIn l (-100) 100
      · have h := walk_SmithTurn_in s A B l c d w ha hb hl hx
        rw [hl]; exact h
      · have h := walk_SmithTurn_far s A B l c d w ha hb hl hx
        rw [hl]; exact h
    · exact walk_SmithTurn_len s A B l.length c d w ha hl
  · have HA := Lib.hid ha
    have FA := Lib.hid (smithFact_any w)
    have OA := Lib.hid bad
    clear bad hn ha hb
    generalize l.length = L at *
    go_enter Try.func4, Try.ntmps4
    go_wp2_with fail
    refine (FA.out).mono ?_; rintro e w1 ⟨rfl, k1⟩
    have K1 := Lib.hid k1; clear k1
    go_wp2_with fail
    refine (OA.out w1 (HA.out.keep K1.out)).mono ?_; rintro e w2 ⟨z, rfl, k2⟩
    have K2 := Lib.hid (K1.out.trans k2)
    clear k2
    go_wp2_with fail
    go_ret
    exact ⟨rfl, K2.out⟩
end Go.Proofs.Ytmimbioffnolaaa
