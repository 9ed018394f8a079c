/- Contracts of the document's Heights, Ways and Apart. -/
import Derived.Test.YtolkdbijenbchaaDoorPhC1
import Derived.Test.YtolkdbijenbchaaDoorPhRM
import Derived.Test.YtolkdbijenbchaaDoorLawIn
import Derived.Test.YtolkdbijenbchaaDoorOwn
import Derived.StillTailTactics
namespace Go.Proofs.YtolkdbijenbchaaDoor
open Go.ChangeShapes Go.WideShapes Go.ChangeAt Go.RowKit
set_option linter.unusedVariables false

set_option maxRecDepth 100000 in
set_option maxHeartbeats 1600000 in
theorem rWays_any : ∀ (n r u : Nat), r + u = n → r ≤ 4 → u ≤ 6 → ∀ w : World,
    Calls Tryd.prog 11 #[.int .i64 (r : Int), .int .i64 (u : Int)] w fun e w' => e = .returned (.int .i64 (Zx.wy r u)) ∧ w = w'
  | n, 0, u, _, _, _, w => by
    rw [Zx.wy_right]
    have e0 : (((0 : Nat) : Int) == 0) = true := rfl
    go_enter Tryd.func11, Tryd.ntmps11
    go_wp2_with fail
    go_ret
    exact ⟨rfl, rfl⟩
  | n, r + 1, 0, _, _, _, w => by
    rw [Zx.wy_up]
    obtain ⟨q, hq⟩ : ∃ q, q = r + 1 := ⟨_, rfl⟩
    rw [← hq]
    have e0 : ((q : Int) == 0) = false := by rw [beq_eq_false_iff_ne]; omega
    clear hq
    go_enter Tryd.func11, Tryd.ntmps11
    go_wp2_with fail
    go_ret
    exact ⟨rfl, rfl⟩
  | 0, r + 1, u + 1, h, _, _, w => by omega
  | n + 1, r + 1, u + 1, h, hr, hu, w => by
    have I1 := Lib.hid (rWays_any n r (u + 1) (by omega) (by omega) hu w)
    have I2 := Lib.hid (rWays_any n (r + 1) u (by omega) hr (by omega) w)
    have b1 := Zx.wy_most r (by omega) (u + 1) (by omega)
    have b2 := Zx.wy_most (r + 1) (by omega) u (by omega)
    rw [Zx.wy_next]
    obtain ⟨q, hq⟩ : ∃ q, q = r + 1 := ⟨_, rfl⟩
    obtain ⟨p, hp⟩ : ∃ p, p = u + 1 := ⟨_, rfl⟩
    rw [← hq] at I2 b2 ⊢
    rw [← hp] at I1 b1 ⊢
    generalize Zx.wy r p = x at *
    generalize Zx.wy q u = y at *
    have e0 : ((q : Int) == 0) = false := by rw [beq_eq_false_iff_ne]; omega
    have e1 : ((p : Int) == 0) = false := by rw [beq_eq_false_iff_ne]; omega
    have e2 : (q : Int) - 1 = (r : Int) := by omega
    have e3 : (p : Int) - 1 = (u : Int) := by omega
    have e4 : IntKind.i64.wrap (r : Int) = (r : Int) := IntWalk.i64_in _ (by omega)
    have e5 : IntKind.i64.wrap (u : Int) = (u : Int) := IntWalk.i64_in _ (by omega)
    have e6 : IntKind.i64.wrap (x + y) = x + y := IntWalk.i64_in _ (by omega)
    clear hq hp b1 b2
    go_enter Tryd.func11, Tryd.ntmps11
    go_wp2_with fail
    refine (I1.out).mono ?_; rintro e w1 ⟨rfl, rfl⟩
    go_wp2_with fail
    refine (I2.out).mono ?_; rintro e w1 ⟨rfl, rfl⟩
    go_wp2_with fail
    go_ret
    exact ⟨rfl, rfl⟩

theorem sg_upto {f : Nat → Int} : ∀ {k : Nat}, (∀ u, u < k → 0 ≤ f u ∧ f u ≤ 4747561509943) → 0 ≤ Zx.sg k f ∧ Zx.sg k f ≤ (k : Int) * 4747561509943
  | 0, _ => by rw [Zx.sg_zero]; omega
  | k + 1, h => by
    have h1 := sg_upto (f := f) (k := k) fun u hu => h u (by omega)
    have h2 := h k (Nat.lt_succ_self k)
    rw [Zx.sg_succ]; omega
set_option maxRecDepth 100000 in
set_option maxHeartbeats 12800000 in
theorem rApart_step (n : Nat) (n3 : n ≤ 3) (t : List Nat) (tl : t.length = n) (t7 : Zx.L7 t) (D : Option Addr) (cd : Nat) (wd : Nat) (hw : wd ≤ 4) (i : Nat) (hi : i < n)
    (IH : ∀ (c v : List Nat) (A B : Option Addr) (ca cb : Nat) (W : World), c.length = n → v.length = i + 1 → Zx.L7 c → Zx.L7 v → (wd = 0 → v = t.take (i + 1)) → Lies W A (nz c) → Lies W B (nz v) → Lies W D (nz t) →
      Calls Tryd.prog 8 #[.int .i64 (wd : Int), .slice A n ca, .slice B (i + 1) cb, .slice D n cd] W fun e W' => e = .returned (.int .i64 (Zx.rap t wd c v)) ∧ Kp W W')
    (c v : List Nat) (A B : Option Addr) (ca cb : Nat) (W : World) (hc : c.length = n) (hv : v.length = i) (c7 : Zx.L7 c) (v7 : Zx.L7 v) (h0 : wd = 0 → v = t.take i) (ha : Lies W A (nz c)) (hb : Lies W B (nz v)) (hd : Lies W D (nz t)) :
    Calls Tryd.prog 8 #[.int .i64 (wd : Int), .slice A n ca, .slice B i cb, .slice D n cd] W fun e W' => e = .returned (.int .i64 (Zx.rap t wd c v)) ∧ Kp W W' := by
  have NX := Zx.rap_next (t := t) (w := wd) (c := c) (v := v) (by omega)
  rw [hv] at NX
  obtain ⟨G, hG⟩ : ∃ G : Nat → Int, G = fun x => Zx.rap t wd c (v ++ [x]) := ⟨_, rfl⟩
  rw [← hG] at NX
  have GB := Lib.hid (show ∀ x, x < 7 → 0 ≤ G x ∧ G x ≤ 4747561509943 from fun x hx => by rw [hG]; exact Zx.rap_bound hw (by omega) (by rw [List.length_append, List.length_singleton]; omega) c7 (v7.snoc hx))
  have PIN := Lib.hid (show wd = 0 → ∀ x, x ≠ t.getD i 0 → G x = 0 from fun h x hx => by rw [hG]; subst h; rw [← hv] at hx; exact Zx.rap_pin hx)
  have IH' := Lib.hid (show ∀ (x : Nat) (A' : Option Addr) (c' : Nat) (W' : World), x < 7 → (wd = 0 → x = t.getD i 0) → Kp W W' → Lies W' A' (nz v ++ [(x : Int)]) →
      Calls Tryd.prog 8 #[.int .i64 (wd : Int), .slice A n ca, .slice A' (i + 1) c', .slice D n cd] W' fun e W'' => e = .returned (.int .i64 (G x)) ∧ Kp W' W'' from fun x A' c' W' hx hp k hl => by
    rw [hG]
    refine IH c (v ++ [x]) A A' ca c' W' hc (by rw [List.length_append, List.length_singleton, hv]) c7 (v7.snoc hx) (fun h => ?_) (ha.keep k) ?_ (hd.keep k)
    · rw [h0 h, hp h, List.take_add_one, List.getD_eq_getElem?_getD, List.getElem?_eq_getElem (by omega)]; rfl
    · have e : nz (v ++ [x]) = nz v ++ [(x : Int)] := by unfold nz; rw [List.map_append]; rfl
      rw [e]; exact hl)
  obtain ⟨ad, rfl, _, x1⟩ := ha.num (k := i) (by omega)
  obtain ⟨dd, rfl, _, x2⟩ := hd.num (k := i) (by omega)
  have HB := Lib.hid hb
  have HV := Lib.hid (show i = (nz v).length by rw [nz_len, hv])
  obtain ⟨lo, hlo⟩ : ∃ lo, lo = c.getD i 0 := ⟨_, rfl⟩
  obtain ⟨ti, hti⟩ : ∃ ti, ti = t.getD i 0 := ⟨_, rfl⟩
  have l7 : lo < 7 := by rw [hlo]; exact c7 i
  have ti7 : ti < 7 := by rw [hti]; exact t7 i
  rw [← hti] at x2 PIN IH'
  rw [← hlo] at x1 NX
  have e0 : ((i : Int) == (n : Int)) = false := by rw [beq_eq_false_iff_ne]; omega
  obtain ⟨i1, hi1⟩ : ∃ i1, i1 = i + 1 := ⟨_, rfl⟩
  have ei1 : (i : Int) + 1 = (i1 : Int) := by omega
  have ew : IntKind.i64.wrap (i1 : Int) = (i1 : Int) := IntWalk.i64_in _ (by omega)
  -- the height below which this one leaves
  have HI : ∃ hi', Zx.lhi c i = hi' ∧ hi' ≤ 7 ∧ ((i1 < n ∧ W.cell? (ad.add i1) = some (.int .i64 (hi' : Int))) ∨ (¬ i1 < n ∧ hi' = 7)) := by
    by_cases h1 : i1 < n
    · obtain ⟨ad', e, _, x3⟩ := ha.num (k := i1) (by omega)
      have := Option.some.inj e
      subst this
      refine ⟨c.getD i1 0, by unfold Zx.lhi; rw [if_pos (by omega), hi1], by have := c7 i1; omega, .inl ⟨h1, x3⟩⟩
    · exact ⟨7, by unfold Zx.lhi; rw [if_neg (by omega)], Nat.le_refl _, .inr ⟨h1, rfl⟩⟩
  obtain ⟨hi', ehi, hi7, HI⟩ := HI
  rw [ehi] at NX
  rw [NX]
  have HI1 := Lib.hid hi1
  clear NX hG hlo hti ehi ha hb hd c7 v7 hc tl t7 IH hi1
  -- where the loop runs
  have PBW := Lib.hid (show ∀ (a : Nat) (k : Nat), a + k ≤ 7 → 0 ≤ (Zx.sg k fun u => G (a + u)) ∧ (Zx.sg k fun u => G (a + u)) ≤ (k : Int) * 4747561509943 from fun a k h => sg_upto fun u hu => GB.out (a + u) (by omega))
  have R0 := Lib.hid (show wd = 0 → ¬ (lo ≤ ti ∧ ti < hi') → Zx.bs lo hi' G = 0 from fun h0 h1 => by
    rw [Zx.bs_congr (g := fun _ => 0) fun x h2 h3 => PIN.out h0 x (by omega), Zx.bs_zero])
  have R1 := Lib.hid (show wd = 0 → lo ≤ ti → ti < hi' → Zx.bs lo hi' G = Zx.bs ti (ti + 1) G from fun h0 h1 h2 => by
    rw [Zx.bs_one, Zx.bs_cut (mid := ti) h1 (Nat.le_of_lt h2), Zx.bs_first h2, Zx.bs_congr (lo := lo) (g := fun _ => 0) fun x _ h => PIN.out h0 x (by omega), Zx.bs_congr (lo := ti + 1) (g := fun _ => 0) fun x h _ => PIN.out h0 x (by omega), Zx.bs_zero, Zx.bs_zero, Int.zero_add, Int.add_zero])
  by_cases hz : wd = 0
  · subst hz
    have hz : 0 = 0 := rfl
    by_cases hin : lo ≤ ti ∧ ti < hi'
    · rw [R1.out hz hin.1 hin.2]
      have hp : ti < ti + 1 := Nat.lt_succ_self ti
      have PB := Lib.hid (show ∀ k, k ≤ ti + 1 - ti → 0 ≤ (Zx.sg k fun u => G (ti + u)) ∧ (Zx.sg k fun u => G (ti + u)) ≤ (k : Int) * 4747561509943 from fun k hk => PBW.out ti k (by omega))
      have q1 : (lo : Int) ≤ (ti : Int) := by omega
      rcases HI with ⟨h1, x3⟩ | ⟨h1, e⟩
      · have q2 : (ti : Int) ≤ (hi' : Int) - 1 := by omega
        have q3 : (i1 : Int) < (n : Int) := by omega
        have q4 : IntKind.i64.wrap ((hi' : Int) - 1) = (hi' : Int) - 1 := IntWalk.i64_in _ (by omega)
        go_enter Tryd.func8, Tryd.ntmps8
        go_wp2_with fail
        go_loopw [12, 13] (fun s h wr => ∃ k : Nat, k ≤ (ti + 1) - ti ∧ h = .int .i64 ((ti + k : Nat) : Int) ∧ s = .int .i64 (Zx.sg k fun u => G (ti + u)) ∧ Kp W wr) (fun _ h _ => (ti + 1) - (intOf h).toNat)
        case atStart => exact ⟨0, Nat.zero_le _, rfl, rfl, Kp.rfl' _⟩
        case round =>
          obtain ⟨k, hk, rfl, rfl, hkp⟩ := hrel
          have HK := Lib.hid hkp
          clear hkp
          obtain ⟨x, hx⟩ : ∃ x, x = ti + k := ⟨_, rfl⟩
          rw [← hx]
          by_cases hlt : k < (ti + 1) - ti
          · have SN := Lib.hid (show (Zx.sg (k + 1) fun u => G (ti + u)) = (Zx.sg k fun u => G (ti + u)) + G x by rw [hx]; rfl)
            have pb := PB.out k (by omega)
            have gb := GB.out x (by omega)
            have I1 := Lib.hid (fun (A' : Option Addr) (c' : Nat) (W' : World) => IH'.out x A' c' W' (by omega) (by omega))
            have HX := Lib.hid hx
            have hc : (x : Int) ≤ (ti : Int) := by omega
            have x7 : x < 7 := by omega
            generalize (Zx.sg k fun u => G (ti + u)) = s at *
            generalize G x = g at *
            have e7 : IntKind.i64.wrap (s + g) = s + g := IntWalk.i64_in _ (by omega)
            have e8 : IntKind.i64.wrap ((x : Int) + 1) = (x : Int) + 1 := IntWalk.i64_in _ (by omega)
            have hl1 : ([] ++ nz v).length + 1 ≤ 17000000000000 := by rw [List.nil_append, ← HV.out]; omega
            clear hx pb gb x1 x2
            go_wp2_with (first
              | (at_builtin; refine wpList_cat rfl (.tmp 73) (.tmp 74) rfl W.heap.size (.slice none 0 0) [] (nz v) B i cb rfl rfl HV.out (Own.none _ _) (HB.out.keep HK.out) (by have := HV.out; simp; omega) HK.out.size ?_; intro v1 w1 h1 h2 h3; have O1 := Lib.hid h1; have K1 := Lib.hid (show Kp W w1 from own_below (Own.none _ W.heap.size) HK.out HK.out.size h2); clear h1 h2 h3)
              | (at_builtin; refine wpList_push rfl (.tmp 79) (.tmp 81) rfl W.heap.size v1 ([] ++ nz v) (x : Int) w1.heap.size 1 rfl rfl (O1.out.new _) (by simp; done) hl1 (Nat.le_trans K1.out.size ((Kp.rfl' _).new _).size) ?_; intro v2 w2 h1 h2 h3; have O2 := Lib.hid (show Own w2 W.heap.size v2 (nz v ++ [(x : Int)]) from h1); have K2 := Lib.hid (show Kp W w2 from own_below (O1.out.new _) (K1.out.new _) (Nat.le_trans K1.out.size ((Kp.rfl' _).new _).size) h2); clear h1 h2 h3))
            obtain ⟨A', c', rfl, l2, _⟩ := O2.out.cap
            rw [show (nz v ++ [(x : Int)]).length = i + 1 by rw [List.length_append, ← HV.out]; rfl]
            refine (I1.out A' c' w2 K2.out l2).mono ?_; rintro e w3 ⟨rfl, k3⟩
            have K3 := Lib.hid (K2.out.trans k3)
            clear k3 l2
            go_wp2_with fail
            go_roundw
            case rel => exact ⟨k + 1, by omega, by rw [← Nat.add_assoc, ← HX.out]; go_num, by rw [SN.out], K3.out⟩
            case measure => first | (simp [intOf]; done) | (simp [intOf]; omega)
          · obtain rfl : k = (ti + 1) - ti := by omega
            have hc : (ti : Int) < (x : Int) := by omega
            have E := Lib.hid (show (Zx.sg ((ti + 1) - ti) fun u => G (ti + u)) = Zx.bs ti (ti + 1) G from rfl)
            clear hx hk hlt
            go_wp2_with fail
            go_ret
            exact ⟨by first | rfl | rw [E.out], HK.out⟩
      · have q2 : (ti : Int) ≤ 6 := by omega
        have q3 : (n : Int) ≤ (i1 : Int) := by omega
        clear e
        go_enter Tryd.func8, Tryd.ntmps8
        go_wp2_with fail
        go_loopw [12, 13] (fun s h wr => ∃ k : Nat, k ≤ (ti + 1) - ti ∧ h = .int .i64 ((ti + k : Nat) : Int) ∧ s = .int .i64 (Zx.sg k fun u => G (ti + u)) ∧ Kp W wr) (fun _ h _ => (ti + 1) - (intOf h).toNat)
        case atStart => exact ⟨0, Nat.zero_le _, rfl, rfl, Kp.rfl' _⟩
        case round =>
          obtain ⟨k, hk, rfl, rfl, hkp⟩ := hrel
          have HK := Lib.hid hkp
          clear hkp
          obtain ⟨x, hx⟩ : ∃ x, x = ti + k := ⟨_, rfl⟩
          rw [← hx]
          by_cases hlt : k < (ti + 1) - ti
          · have SN := Lib.hid (show (Zx.sg (k + 1) fun u => G (ti + u)) = (Zx.sg k fun u => G (ti + u)) + G x by rw [hx]; rfl)
            have pb := PB.out k (by omega)
            have gb := GB.out x (by omega)
            have I1 := Lib.hid (fun (A' : Option Addr) (c' : Nat) (W' : World) => IH'.out x A' c' W' (by omega) (by omega))
            have HX := Lib.hid hx
            have hc : (x : Int) ≤ (ti : Int) := by omega
            have x7 : x < 7 := by omega
            generalize (Zx.sg k fun u => G (ti + u)) = s at *
            generalize G x = g at *
            have e7 : IntKind.i64.wrap (s + g) = s + g := IntWalk.i64_in _ (by omega)
            have e8 : IntKind.i64.wrap ((x : Int) + 1) = (x : Int) + 1 := IntWalk.i64_in _ (by omega)
            have hl1 : ([] ++ nz v).length + 1 ≤ 17000000000000 := by rw [List.nil_append, ← HV.out]; omega
            clear hx pb gb x1 x2
            go_wp2_with (first
              | (at_builtin; refine wpList_cat rfl (.tmp 73) (.tmp 74) rfl W.heap.size (.slice none 0 0) [] (nz v) B i cb rfl rfl HV.out (Own.none _ _) (HB.out.keep HK.out) (by have := HV.out; simp; omega) HK.out.size ?_; intro v1 w1 h1 h2 h3; have O1 := Lib.hid h1; have K1 := Lib.hid (show Kp W w1 from own_below (Own.none _ W.heap.size) HK.out HK.out.size h2); clear h1 h2 h3)
              | (at_builtin; refine wpList_push rfl (.tmp 79) (.tmp 81) rfl W.heap.size v1 ([] ++ nz v) (x : Int) w1.heap.size 1 rfl rfl (O1.out.new _) (by simp; done) hl1 (Nat.le_trans K1.out.size ((Kp.rfl' _).new _).size) ?_; intro v2 w2 h1 h2 h3; have O2 := Lib.hid (show Own w2 W.heap.size v2 (nz v ++ [(x : Int)]) from h1); have K2 := Lib.hid (show Kp W w2 from own_below (O1.out.new _) (K1.out.new _) (Nat.le_trans K1.out.size ((Kp.rfl' _).new _).size) h2); clear h1 h2 h3))
            obtain ⟨A', c', rfl, l2, _⟩ := O2.out.cap
            rw [show (nz v ++ [(x : Int)]).length = i + 1 by rw [List.length_append, ← HV.out]; rfl]
            refine (I1.out A' c' w2 K2.out l2).mono ?_; rintro e w3 ⟨rfl, k3⟩
            have K3 := Lib.hid (K2.out.trans k3)
            clear k3 l2
            go_wp2_with fail
            go_roundw
            case rel => exact ⟨k + 1, by omega, by rw [← Nat.add_assoc, ← HX.out]; go_num, by rw [SN.out], K3.out⟩
            case measure => first | (simp [intOf]; done) | (simp [intOf]; omega)
          · obtain rfl : k = (ti + 1) - ti := by omega
            have hc : (ti : Int) < (x : Int) := by omega
            have E := Lib.hid (show (Zx.sg ((ti + 1) - ti) fun u => G (ti + u)) = Zx.bs ti (ti + 1) G from rfl)
            clear hx hk hlt
            go_wp2_with fail
            go_ret
            exact ⟨by first | rfl | rw [E.out], HK.out⟩
    · rw [R0.out hz hin]
      by_cases q1 : ti < lo
      · have q1' : (ti : Int) < (lo : Int) := by omega
        rcases HI with ⟨h1, x3⟩ | ⟨h1, e⟩
        · have q3 : (i1 : Int) < (n : Int) := by omega
          have q4 : IntKind.i64.wrap ((hi' : Int) - 1) = (hi' : Int) - 1 := IntWalk.i64_in _ (by omega)
          go_enter Tryd.func8, Tryd.ntmps8
          go_wp2_with fail
          go_ret
          exact ⟨rfl, Kp.rfl' _⟩
        · have q3 : (n : Int) ≤ (i1 : Int) := by omega
          clear e
          go_enter Tryd.func8, Tryd.ntmps8
          go_wp2_with fail
          go_ret
          exact ⟨rfl, Kp.rfl' _⟩
      · have q1' : (lo : Int) ≤ (ti : Int) := by omega
        rcases HI with ⟨h1, x3⟩ | ⟨h1, e⟩
        · have q3 : (i1 : Int) < (n : Int) := by omega
          have q4 : IntKind.i64.wrap ((hi' : Int) - 1) = (hi' : Int) - 1 := IntWalk.i64_in _ (by omega)
          have q5 : (hi' : Int) - 1 < (ti : Int) := by omega
          go_enter Tryd.func8, Tryd.ntmps8
          go_wp2_with fail
          go_ret
          exact ⟨rfl, Kp.rfl' _⟩
        · exfalso; omega
  · have ez : ((wd : Int) == 0) = false := by rw [beq_eq_false_iff_ne]; omega
    have PB := Lib.hid (show ∀ k, k ≤ hi' - lo → 0 ≤ (Zx.sg k fun u => G (lo + u)) ∧ (Zx.sg k fun u => G (lo + u)) ≤ (k : Int) * 4747561509943 from fun k hk => PBW.out lo k (by omega))
    rcases HI with ⟨h1, x3⟩ | ⟨h1, e⟩
    · have q3 : (i1 : Int) < (n : Int) := by omega
      have q4 : IntKind.i64.wrap ((hi' : Int) - 1) = (hi' : Int) - 1 := IntWalk.i64_in _ (by omega)
      go_enter Tryd.func8, Tryd.ntmps8
      go_wp2_with fail
      go_loopw [12, 13] (fun s h wr => ∃ k : Nat, k ≤ hi' - lo ∧ h = .int .i64 ((lo + k : Nat) : Int) ∧ s = .int .i64 (Zx.sg k fun u => G (lo + u)) ∧ Kp W wr) (fun _ h _ => hi' - (intOf h).toNat)
      case atStart => exact ⟨0, Nat.zero_le _, rfl, rfl, Kp.rfl' _⟩
      case round =>
        obtain ⟨k, hk, rfl, rfl, hkp⟩ := hrel
        have HK := Lib.hid hkp
        clear hkp
        obtain ⟨x, hx⟩ : ∃ x, x = lo + k := ⟨_, rfl⟩
        rw [← hx]
        by_cases hlt : k < hi' - lo
        · have SN := Lib.hid (show (Zx.sg (k + 1) fun u => G (lo + u)) = (Zx.sg k fun u => G (lo + u)) + G x by rw [hx]; rfl)
          have pb := PB.out k (by omega)
          have gb := GB.out x (by omega)
          have I1 := Lib.hid (fun (A' : Option Addr) (c' : Nat) (W' : World) => IH'.out x A' c' W' (by omega) (by omega))
          have HX := Lib.hid hx
          have hc : (x : Int) ≤ (hi' : Int) - 1 := by omega
          have x7 : x < 7 := by omega
          generalize (Zx.sg k fun u => G (lo + u)) = s at *
          generalize G x = g at *
          have e7 : IntKind.i64.wrap (s + g) = s + g := IntWalk.i64_in _ (by omega)
          have e8 : IntKind.i64.wrap ((x : Int) + 1) = (x : Int) + 1 := IntWalk.i64_in _ (by omega)
          have hl1 : ([] ++ nz v).length + 1 ≤ 17000000000000 := by rw [List.nil_append, ← HV.out]; omega
          clear hx pb gb x1 x2
          go_wp2_with (first
            | (at_builtin; refine wpList_cat rfl (.tmp 73) (.tmp 74) rfl W.heap.size (.slice none 0 0) [] (nz v) B i cb rfl rfl HV.out (Own.none _ _) (HB.out.keep HK.out) (by have := HV.out; simp; omega) HK.out.size ?_; intro v1 w1 h1 h2 h3; have O1 := Lib.hid h1; have K1 := Lib.hid (show Kp W w1 from own_below (Own.none _ W.heap.size) HK.out HK.out.size h2); clear h1 h2 h3)
            | (at_builtin; refine wpList_push rfl (.tmp 79) (.tmp 81) rfl W.heap.size v1 ([] ++ nz v) (x : Int) w1.heap.size 1 rfl rfl (O1.out.new _) (by simp; done) hl1 (Nat.le_trans K1.out.size ((Kp.rfl' _).new _).size) ?_; intro v2 w2 h1 h2 h3; have O2 := Lib.hid (show Own w2 W.heap.size v2 (nz v ++ [(x : Int)]) from h1); have K2 := Lib.hid (show Kp W w2 from own_below (O1.out.new _) (K1.out.new _) (Nat.le_trans K1.out.size ((Kp.rfl' _).new _).size) h2); clear h1 h2 h3))
          obtain ⟨A', c', rfl, l2, _⟩ := O2.out.cap
          rw [show (nz v ++ [(x : Int)]).length = i + 1 by rw [List.length_append, ← HV.out]; rfl]
          refine (I1.out A' c' w2 K2.out l2).mono ?_; rintro e w3 ⟨rfl, k3⟩
          have K3 := Lib.hid (K2.out.trans k3)
          clear k3 l2
          go_wp2_with fail
          go_roundw
          case rel => exact ⟨k + 1, by omega, by rw [← Nat.add_assoc, ← HX.out]; go_num, by rw [SN.out], K3.out⟩
          case measure => first | (simp [intOf]; done) | (simp [intOf]; omega)
        · obtain rfl : k = hi' - lo := by omega
          have hc : (hi' : Int) - 1 < (x : Int) := by omega
          have E := Lib.hid (show (Zx.sg (hi' - lo) fun u => G (lo + u)) = Zx.bs lo hi' G from rfl)
          clear hx hk hlt
          go_wp2_with fail
          go_ret
          exact ⟨by first | rfl | rw [E.out], HK.out⟩
    · have q3 : (n : Int) ≤ (i1 : Int) := by omega
      have HE := Lib.hid e
      rw [HE.out] at PB ⊢
      clear e
      go_enter Tryd.func8, Tryd.ntmps8
      go_wp2_with fail
      go_loopw [12, 13] (fun s h wr => ∃ k : Nat, k ≤ 7 - lo ∧ h = .int .i64 ((lo + k : Nat) : Int) ∧ s = .int .i64 (Zx.sg k fun u => G (lo + u)) ∧ Kp W wr) (fun _ h _ => 7 - (intOf h).toNat)
      case atStart => exact ⟨0, Nat.zero_le _, rfl, rfl, Kp.rfl' _⟩
      case round =>
        obtain ⟨k, hk, rfl, rfl, hkp⟩ := hrel
        have HK := Lib.hid hkp
        clear hkp
        obtain ⟨x, hx⟩ : ∃ x, x = lo + k := ⟨_, rfl⟩
        rw [← hx]
        by_cases hlt : k < 7 - lo
        · have SN := Lib.hid (show (Zx.sg (k + 1) fun u => G (lo + u)) = (Zx.sg k fun u => G (lo + u)) + G x by rw [hx]; rfl)
          have pb := PB.out k (by omega)
          have gb := GB.out x (by omega)
          have I1 := Lib.hid (fun (A' : Option Addr) (c' : Nat) (W' : World) => IH'.out x A' c' W' (by omega) (by omega))
          have HX := Lib.hid hx
          have hc : (x : Int) ≤ 6 := by omega
          have x7 : x < 7 := by omega
          generalize (Zx.sg k fun u => G (lo + u)) = s at *
          generalize G x = g at *
          have e7 : IntKind.i64.wrap (s + g) = s + g := IntWalk.i64_in _ (by omega)
          have e8 : IntKind.i64.wrap ((x : Int) + 1) = (x : Int) + 1 := IntWalk.i64_in _ (by omega)
          have hl1 : ([] ++ nz v).length + 1 ≤ 17000000000000 := by rw [List.nil_append, ← HV.out]; omega
          clear hx pb gb x1 x2
          go_wp2_with (first
            | (at_builtin; refine wpList_cat rfl (.tmp 73) (.tmp 74) rfl W.heap.size (.slice none 0 0) [] (nz v) B i cb rfl rfl HV.out (Own.none _ _) (HB.out.keep HK.out) (by have := HV.out; simp; omega) HK.out.size ?_; intro v1 w1 h1 h2 h3; have O1 := Lib.hid h1; have K1 := Lib.hid (show Kp W w1 from own_below (Own.none _ W.heap.size) HK.out HK.out.size h2); clear h1 h2 h3)
            | (at_builtin; refine wpList_push rfl (.tmp 79) (.tmp 81) rfl W.heap.size v1 ([] ++ nz v) (x : Int) w1.heap.size 1 rfl rfl (O1.out.new _) (by simp; done) hl1 (Nat.le_trans K1.out.size ((Kp.rfl' _).new _).size) ?_; intro v2 w2 h1 h2 h3; have O2 := Lib.hid (show Own w2 W.heap.size v2 (nz v ++ [(x : Int)]) from h1); have K2 := Lib.hid (show Kp W w2 from own_below (O1.out.new _) (K1.out.new _) (Nat.le_trans K1.out.size ((Kp.rfl' _).new _).size) h2); clear h1 h2 h3))
          obtain ⟨A', c', rfl, l2, _⟩ := O2.out.cap
          rw [show (nz v ++ [(x : Int)]).length = i + 1 by rw [List.length_append, ← HV.out]; rfl]
          refine (I1.out A' c' w2 K2.out l2).mono ?_; rintro e w3 ⟨rfl, k3⟩
          have K3 := Lib.hid (K2.out.trans k3)
          clear k3 l2
          go_wp2_with fail
          go_roundw
          case rel => exact ⟨k + 1, by omega, by rw [← Nat.add_assoc, ← HX.out]; go_num, by rw [SN.out], K3.out⟩
          case measure => first | (simp [intOf]; done) | (simp [intOf]; omega)
        · obtain rfl : k = 7 - lo := by omega
          have hc : 6 < (x : Int) := by omega
          have E := Lib.hid (show (Zx.sg (7 - lo) fun u => G (lo + u)) = Zx.bs lo 7 G from rfl)
          clear hx hk hlt
          go_wp2_with fail
          go_ret
          exact ⟨by first | rfl | rw [E.out], HK.out⟩
end Go.Proofs.YtolkdbijenbchaaDoor
