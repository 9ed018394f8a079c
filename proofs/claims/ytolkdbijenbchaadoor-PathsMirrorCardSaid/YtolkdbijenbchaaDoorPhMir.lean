/- The law PathsMirror. -/
import Derived.Test.YtolkdbijenbchaaDoorPhMirM
import Derived.Test.YtolkdbijenbchaaDoorPhFact
import Derived.Test.YtolkdbijenbchaaDoorErrG
import Derived.StillTailTactics
namespace Go.Proofs.YtolkdbijenbchaaDoor
open Go.ChangeShapes Go.WideShapes Go.ChangeAt Go.RowKit
set_option linter.unusedVariables false

set_option maxRecDepth 100000 in
set_option maxHeartbeats 12800000 in
theorem mirror_main (wd : Nat) (x y : List Nat) (l m : List Int) (s : Ph wd x y l m) (A B : Option Addr) (n c d : Nat) (w : World) (hl : Told.Laid w) (ha : Lies w A l) (hb : Lies w B m) (hn : l.length = n) (hq : m.length = n) (lc : n ≤ c) (ld : n ≤ d) :
    Calls Tryd.prog 4 #[.int .i64 (wd : Int), .slice A n c, .slice B n d] w fun e w' => e = .returned (.bool true) ∧ Kp w w' := by
  have FA := Lib.hid (fun w => pathsFact_any w)
  have AP := Lib.hid (fun w ha hb => Apart_ok wd x y l m s A B n n c d w ha hb hn hq)
  have lx : x.length = n := by rw [← hn, s.la, nz_len]
  have ly : y.length = n := by rw [← hq, s.lb, nz_len]
  have n1 : 1 ≤ n := by rw [← lx]; exact s.a1
  obtain ⟨n0, hn0⟩ : ∃ n0, n = n0 + 1 := ⟨n - 1, by omega⟩
  have HA := Lib.hid ha
  have HB := Lib.hid hb
  have XL := Lib.hid (fun (w' : World) (k : Kp w w') (i : Nat) (hi : i < n) => Lies.num (l := x) (by rw [← s.la]; exact ha.keep k) (show i < x.length by rw [lx]; exact hi))
  have YL := Lib.hid (fun (w' : World) (k : Kp w w') (i : Nat) (hi : i < n) => Lies.num (l := y) (by rw [← s.lb]; exact hb.keep k) (show i < y.length by rw [ly]; exact hi))
  have XB := Lib.hid (Zx.ris_le s.ra)
  have YB := Lib.hid (Zx.ris_le s.rb)
  have XR := Lib.hid (fun (i t : Nat) (h : i + t + 1 = n) => rvk_next (l := x) (i := i) (t := t) (by rw [lx]; exact h) (Zx.ris_le s.ra i))
  have YR := Lib.hid (fun (i t : Nat) (h : i + t + 1 = n) => rvk_next (l := y) (i := i) (t := t) (by rw [ly]; exact h) (Zx.ris_le s.rb i))
  have XE := Lib.hid (show rvk x n = nz (rvh x) by rw [← lx]; exact rvk_all x)
  have YE := Lib.hid (show rvk y n = nz (rvh y) by rw [← ly]; exact rvk_all y)
  have MI := ph_mirror s
  have AP2 := Lib.hid (fun (A' B' : Option Addr) (c' d' : Nat) (w' : World) (h1 : Lies w' A' (nz (rvh y))) (h2 : Lies w' B' (nz (rvh x))) =>
    Apart_ok wd (rvh y) (rvh x) _ _ MI.2 A' B' n n c' d' w' h1 h2 (by rw [nz_len, rvh_len, ly]) (by rw [nz_len, rvh_len, lx]))
  rw [MI.1] at AP2
  have AP3 := Lib.hid (fun (h : n0 = 0) (A' B' : Option Addr) (c' d' : Nat) (w' : World) => (show Calls Tryd.prog 9 #[.int .i64 (wd : Int), .slice A' n0 c', .slice B' n0 d'] w' fun e w'' => e = .returned (.tuple #[.int .i64 0, .iface 37 (.int .i64 5)]) ∧ w' = w'' from by
    have e5 : phcd (wd : Int) [] [] = 5 := by
      have := s.w4
      unfold phcd
      rw [if_neg (by omega)]
      rfl
    have := Apart_no (wd : Int) A' B' [] [] 0 0 c' d' w' (Lies.empty _ _) (Lies.empty _ _) rfl rfl (by rw [e5]; decide)
    rw [e5] at this
    subst h
    exact this))
  have AP4 := Lib.hid (fun (h : 0 < n0) (a b : Addr) (hA : A = some a) (hB : B = some b) (c' d' : Nat) (w' : World) (k : Kp w w') => (show Calls Tryd.prog 9 #[.int .i64 (wd : Int), .slice (some ⟨a.block, a.off + 1, none⟩) n0 c', .slice (some ⟨b.block, b.off + 1, none⟩) n0 d'] w' fun e w'' => e = .returned (.tuple #[.int .i64 (Zx.ap wd x.tail y.tail), .nilIface]) ∧ Kp w' w'' from by
    subst hA hB
    have s2 := (ph_tail s (by omega)).1
    have la : Lies w' (some (a.add 1)) (nz x.tail) := by
      have h1 := (ha.keep k).drop 1
      rw [s.la] at h1
      have e : (nz x).drop 1 = nz x.tail := by unfold nz; rw [← List.map_drop, List.drop_one]
      rw [e] at h1
      exact h1
    have lb : Lies w' (some (b.add 1)) (nz y.tail) := by
      have h1 := (hb.keep k).drop 1
      rw [s.lb] at h1
      have e : (nz y).drop 1 = nz y.tail := by unfold nz; rw [← List.map_drop, List.drop_one]
      rw [e] at h1
      exact h1
    have := Apart_ok wd x.tail y.tail _ _ s2 (some (a.add 1)) (some (b.add 1)) n0 n0 c' d' w' la lb (by rw [nz_len, List.length_tail]; omega) (by rw [nz_len, List.length_tail]; omega)
    rwa [Addr.add_succ', Addr.add_succ'] at this))
  have PW := Lib.hid (fun (k : Nat) (h : k ≤ 6) (w' : World) => PWay_ok wd k w' s.w4 h)
  have PST := Lib.hid (fun h => ph_past s h)
  have TL := Lib.hid (fun (h : 0 < n0) => (ph_tail s (by omega)).2)
  have SZ := Lib.hid (fun (h : 0 < n0) => ph_size (ph_tail s (by omega)).1)
  have INN := Lib.hid (fun (k a t : Nat) (h7 : t < 7) (h : t = a + k) => Zx.way_is wd k h7 h)
  have WB := Lib.hid (fun (k : Nat) (h : k < 7) => Zx.wy_most wd (by have := s.w4; omega) k h)
  have ER := Lib.hid (fun (wx : World) (hx : Kp w wx) => (show Calls Tryd.prog 6 #[.iface 37 (.int .i64 5), .int .i64 5] wx fun e w' => e = .returned (.bool true) ∧ Kp wx w' from error_says 5 wx (laid_kp hl hx) (by decide)))
  obtain ⟨z, hz⟩ : ∃ z, z = Zx.ap wd x y := ⟨_, rfl⟩
  rw [← hz] at AP AP2 PST TL
  have ez : (z != z) = false := by simp
  have n3 : n - 1 = n0 := by omega
  have n4 : (n : Int) - 1 = n0 := by omega
  have n5 : IntKind.i64.wrap (n0 : Int) = n0 := IntWalk.i64_in _ (by have := s.a3; omega)
  have n6 : (1 : Int) ≤ n := by omega
  have n9 : n ≤ 3 := by rw [← lx]; exact s.a3
  have c1 : 1 ≤ c := by omega
  have d1 : 1 ≤ d := by omega
  have HN0 := Lib.hid hn0
  clear s ha hb hn hq lx ly MI hz hn0 hl
  go_enter Tryd.func4, Tryd.ntmps4
  go_wp2_with fail
  refine (FA.out _).mono ?_; rintro e w1 ⟨rfl, k1⟩
  have K1 := Lib.hid k1
  clear k1
  go_wp2_with fail
  refine (AP.out _ (HA.out.keep K1.out) (HB.out.keep K1.out)).mono ?_; rintro e w2 ⟨rfl, k2⟩
  have K2 := Lib.hid (K1.out.trans k2)
  clear k2 K1 FA AP
  go_wp2_with fail
  go_loopw [10, 11, 12] (fun a b i wr => ∃ t : Nat, t ≤ n ∧ i = .int .i64 ((n0 : Int) - (t : Int)) ∧ Two w2 a b (rvk y t) (rvk x t) wr) (fun _ _ i _ => (intOf i + 1).toNat)
  case atStart => exact ⟨0, Nat.zero_le _, by go_num, ⟨Own.none _ _, Own.none _ _, fun g h => (by cases h), Kp.rfl' _⟩⟩
  case round =>
    obtain ⟨t, ht, rfl, ho⟩ := hrel
    have HO := Lib.hid ho
    clear ho
    by_cases hlt : t < n
    · obtain ⟨q, hq⟩ : ∃ q, q + t + 1 = n := ⟨n0 - t, by have := HN0.out; omega⟩
      have ei : (n0 : Int) - (t : Int) = (q : Int) := by have := HN0.out; omega
      rw [ei]
      have xr := XR.out q t hq
      have yr := YR.out q t hq
      have xb := XB.out q
      have yb := YB.out q
      have K5 := Lib.hid (K2.out.trans HO.out.kp)
      obtain ⟨ad, eA, _, x1⟩ := XL.out wr K5.out q (by omega)
      obtain ⟨bd, eB, _, x2⟩ := YL.out wr K5.out q (by omega)
      have XC := Lib.hid (show ∀ w', Kp w w' → w'.cell? (ad.add q) = some (.int .i64 ((x.getD q 0 : Nat) : Int)) from fun w' k => by
        obtain ⟨ad', e, _, h⟩ := XL.out w' k q (by omega)
        have := Option.some.inj (eA.symm.trans e)
        rw [this]; exact h)
      subst eA eB
      generalize x.getD q 0 = a at *
      generalize y.getD q 0 = b at *
      have XR' := Lib.hid xr
      have YR' := Lib.hid yr
      have QN := Lib.hid hq
      have w6a : IntKind.i64.wrap (6 - (a : Int)) = 6 - (a : Int) := IntWalk.i64_in _ (by omega)
      have w6b : IntKind.i64.wrap (6 - (b : Int)) = 6 - (b : Int) := IntWalk.i64_in _ (by omega)
      have w6q : IntKind.i64.wrap ((q : Int) - 1) = (q : Int) - 1 := IntWalk.i64_in _ (by omega)
      have hqn : q < n := by omega
      have q0 : (0 : Int) ≤ (q : Int) := by omega
      have hl1 : (rvk y t).length + 1 ≤ 17000000000000 := by rw [rvk, Mx.len_row]; omega
      have hl2 : (rvk x t).length + 1 ≤ 17000000000000 := by rw [rvk, Mx.len_row]; omega
      clear xr yr xb yb hq ei
      go_wp2_with (first
        | (at_builtin; refine wpList_push rfl _ _ rfl w2.heap.size _ (rvk y t) (6 - (b : Int)) wr.heap.size 1 rfl rfl (HO.out.one.new _) (by simp; done) hl1 (Nat.le_trans HO.out.kp.size ((Kp.rfl' _).new _).size) ?_; intro v1 w3 h1 h2 h3; have T1 := Lib.hid ((HO.out.new _).grown h1 h2 h3); have x1' := XC.out w3 (K2.out.trans T1.out.kp); clear h1 h2 h3 x1 x2)
        | (at_builtin; refine wpList_push rfl _ _ rfl w2.heap.size _ (rvk x t) (6 - (a : Int)) w3.heap.size 1 rfl rfl (T1.out.two.new _) (by simp; done) hl2 (Nat.le_trans T1.out.kp.size ((Kp.rfl' _).new _).size) ?_; intro v2 w4 h1 h2 h3; have T2 := Lib.hid (((T1.out.new _).symm.grown h1 h2 h3).symm); clear h1 h2 h3 x1'))
      go_wp2_with fail
      go_roundw
      case rel =>
        have h1 := HN0.out
        have h2 := QN.out
        exact ⟨t + 1, by omega, by rw [show (n0 : Int) - ((t + 1 : Nat) : Int) = (q : Int) - 1 by omega], by rw [XR'.out, YR'.out]; exact T2.out⟩
      case measure => first | (simp [intOf]; done) | (simp [intOf]; omega)
    · have etn : t = n := by omega
      rw [etn, XE.out, YE.out] at HO
      have ei : (n0 : Int) - (t : Int) = -1 := by have := HN0.out; omega
      rw [ei]
      obtain ⟨A1, c1', rfl, l1, _⟩ := HO.out.one.cap
      obtain ⟨B1, d1', rfl, l2, _⟩ := HO.out.two.cap
      have ly : (nz (rvh y)).length = n := by rw [← YE.out, rvk, Mx.len_row]
      have lx : (nz (rvh x)).length = n := by rw [← XE.out, rvk, Mx.len_row]
      rw [lx, ly]
      have A2 := Lib.hid (AP2.out A1 B1 c1' d1' wr l1 l2)
      have K5 := Lib.hid (K2.out.trans HO.out.kp)
      clear etn ei lx ly l1 l2 HO AP2 hlt XR YR XE YE ht
      go_wp2_with fail
      refine (A2.out).mono ?_; rintro e w5 ⟨rfl, k5⟩
      have K6 := Lib.hid (K5.out.trans k5)
      clear k5 K5 A2
      by_cases h0 : n0 = 0
      · have A3 := Lib.hid (AP3.out h0)
        have e1 : ((n : Int) == 1) = true := by rw [beq_iff_eq]; have := HN0.out; omega
        clear AP3 AP4 h0
        go_wp2_with fail
        go_region_law (first
          | (go_simp; go_at_call 9; refine (A3.out _ _ _ _ _).mono ?_; rintro e w7 ⟨rfl, rfl⟩))
        all_goals go_wp2_with fail
        all_goals
          refine (ER.out _ (K6.out.drewN _)).mono ?_; rintro e w8 ⟨rfl, k8⟩
          have K8 := Lib.hid ((K6.out.drewN _).trans k8)
          clear k8
          go_wp2_with fail
          go_ret
          exact ⟨rfl, K8.out⟩
      · have h0' : 0 < n0 := by omega
        obtain ⟨ad, eA, _, x1⟩ := XL.out w (Kp.rfl' _) 0 (by omega)
        obtain ⟨bd, eB, _, x2⟩ := YL.out w (Kp.rfl' _) 0 (by omega)
        have XC := Lib.hid (show ∀ w', Kp w w' → w'.cell? ad = some (.int .i64 ((x.getD 0 0 : Nat) : Int)) from fun w' k => by
          obtain ⟨ad', e, _, h⟩ := XL.out w' k 0 (by omega)
          have := Option.some.inj (eA.symm.trans e)
          rw [this, ← add_zero' ad']; exact h)
        have YC := Lib.hid (show ∀ w', Kp w w' → w'.cell? bd = some (.int .i64 ((y.getD 0 0 : Nat) : Int)) from fun w' k => by
          obtain ⟨bd', e, _, h⟩ := YL.out w' k 0 (by omega)
          have := Option.some.inj (eB.symm.trans e)
          rw [this, ← add_zero' bd']; exact h)
        have A4 := Lib.hid (AP4.out h0' ad bd eA eB)
        have tl := TL.out h0'
        have sz := SZ.out h0'
        have pst := PST.out
        have xb := XB.out 0
        have yb := YB.out 0
        have IN' := Lib.hid (fun (k : Nat) (h : y.getD 0 0 = x.getD 0 0 + k) => INN.out k (x.getD 0 0) (y.getD 0 0) yb h)
        clear x1 x2 XL YL AP3 AP4 TL SZ PST XB YB INN
        subst eA eB
        generalize Zx.ap wd x.tail y.tail = p at *
        generalize x.getD 0 0 = a at *
        generalize y.getD 0 0 = b at *
        have e1 : ((n : Int) == 1) = false := by rw [beq_eq_false_iff_ne]; have := HN0.out; omega
        have c2 : ¬ c = 1 := by have := HN0.out; omega
        have d2 : ¬ d = 1 := by have := HN0.out; omega
        have nn : 0 < n := by have := HN0.out; omega
        have PP := Lib.hid sz
        have TT := Lib.hid tl
        have XX := Lib.hid xb
        have YY := Lib.hid yb
        have NN := Lib.hid pst
        clear h0 h0' tl sz xb yb pst
        go_wp2_with fail
        go_region_law (first
          | (go_simp; go_at_call 9; refine (A4.out _ _ _ (K6.out.drewN _)).mono ?_; rintro e w7 ⟨rfl, k7⟩; have K7 := Lib.hid ((K6.out.drewN _).trans k7); clear k7))
        all_goals
          have x1 := XC.out w7 K7.out
          have x2 := YC.out w7 K7.out
          go_wp2_with fail
          by_cases hab : b < a
          · have z0 := NN.out hab
            have e2 : (b : Int) < (a : Int) := by omega
            have e3 : (z == 0) = true := by rw [beq_iff_eq]; exact z0
            clear hab z0
            go_quiet (fail)
            go_wp2_with fail
            go_ret
            exact ⟨rfl, K7.out.drewN _⟩
          · obtain ⟨q, hq⟩ : ∃ q, b = a + q := ⟨b - a, by omega⟩
            have wq := IN'.out q hq
            have xb := XX.out
            have yb := YY.out
            have PW1 := Lib.hid (PW.out q (by omega))
            have wb := WB.out q (by omega)
            have tt := TT.out
            rw [wq] at tt
            generalize Zx.wy wd q = u at *
            have e2 : (a : Int) ≤ (b : Int) := by omega
            have e4 : (b : Int) - (a : Int) = (q : Int) := by omega
            have e5 : IntKind.i64.wrap (q : Int) = (q : Int) := IntWalk.i64_in _ (by omega)
            have pu : 0 ≤ p * u ∧ p * u ≤ 1000000000000000 * 210 := by
              have h1 := PP.out
              exact ⟨Int.mul_nonneg h1.1 (by omega), Int.mul_le_mul h1.2 wb.2 (by omega) (by omega)⟩
            have e6 : IntKind.i64.wrap (p * u) = p * u := IntWalk.i64_in _ (by omega)
            clear hq wq wb hab xb yb
            go_quiet (fail)
            go_wp2_with fail
            go_region_law (first
              | (go_simp; go_at_call 12; refine (PW1.out _).mono ?_; rintro e w8 ⟨rfl, k8⟩; have K8 := Lib.hid ((K7.out.drewN _).trans k8); clear k8))
            all_goals
              go_wp2_with fail
              go_ret
              exact ⟨rfl, K8.out⟩
theorem walk_PathsMirror (wd : Int) (A : Option Addr) (l : List Int) (c : Nat) (B : Option Addr) (m : List Int) (d : Nat) (w : World) (hl : Told.Laid w) (ha : Lies w A l) (lc : l.length ≤ c) (hb : Lies w B m) (ld : m.length ≤ d) :
    Calls Tryd.prog 4 #[.int .i64 wd, .slice A l.length c, .slice B m.length d] w fun e w' => e = .returned (.bool true) ∧ Kp w w' := by
  rcases ph_or wd l m with ⟨k, x, y, rfl, s⟩ | h
  · have eq : m.length = l.length := by rw [s.la, s.lb, nz_len, nz_len, s.len]
    rw [eq] at ld ⊢
    exact mirror_main k x y l m s A B l.length c d w hl ha hb rfl eq lc ld
  · have FA := Lib.hid (fun w => pathsFact_any w)
    have AP := Lib.hid (fun w ha hb => Apart_no wd A B l m l.length m.length c d w ha hb rfl rfl h)
    rw [errOf_ne _ h] at AP
    have HA := Lib.hid ha
    have HB := Lib.hid hb
    generalize phcd wd l m = z at *
    generalize l.length = n at *
    generalize m.length = q at *
    clear ha hb h lc ld hl
    go_enter Tryd.func4, Tryd.ntmps4
    go_wp2_with fail
    refine (FA.out _).mono ?_; rintro e w1 ⟨rfl, k1⟩
    have K1 := Lib.hid k1
    clear k1
    go_wp2_with fail
    refine (AP.out _ (HA.out.keep K1.out) (HB.out.keep K1.out)).mono ?_; rintro e w2 ⟨rfl, rfl⟩
    go_wp2_with fail
    go_ret
    exact ⟨rfl, K1.out⟩
end Go.Proofs.YtolkdbijenbchaaDoor
