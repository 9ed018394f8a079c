/- The document's functions on graphs: Pairs, Between, trees, Trees. -/
import Derived.Test.YtgfhmffkdhfoeaaDoorTrC3
import Derived.Test.YtgfhmffkdhfoeaaDoorSame
import Derived.Test.YtgfhmffkdhfoeaaDoorLawIn
namespace Go.Proofs.YtgfhmffkdhfoeaaDoor
open Go.ChangeShapes Go.WideShapes Go.ChangeAt Go.RowKit
set_option linter.unusedVariables false

theorem allin_two {n : Nat} {l : List Int} (hl : l.length = 2) : AllIn l 0 ((n : Int) - 1) ↔ (0 ≤ l.getD 0 0 ∧ l.getD 0 0 < n) ∧ 0 ≤ l.getD 1 0 ∧ l.getD 1 0 < n :=
  ⟨fun h => by have a := h 0 (by omega); have b := h 1 (by omega); omega, fun h k hk => by
    rcases (show k = 0 ∨ k = 1 by omega) with rfl | rfl <;> omega⟩

set_option maxRecDepth 100000 in
set_option maxHeartbeats 3200000 in
theorem rPairs_any (n : Int) (A : Option Addr) (m : List (List Int)) (q d : Nat) (w : World) (ha : LiesM w A m) (hq : m.length = q) :
    Calls Tryd.prog 5 #[.int .i64 n, .slice A q d] w fun e w' => e = .returned (.int .i64 (trcd n m : Int)) ∧ Drew w w' := by
  obtain ⟨v, hv⟩ : ∃ v, v = trcd n m := ⟨_, rfl⟩
  rw [← hv]
  unfold trcd at hv
  obtain ⟨t, ht⟩ : ∃ t, t = (decide (1 ≤ n) && decide (n ≤ 6)) := ⟨_, rfl⟩
  have IN := Lib.hid (fun w => ref3In_any n 1 6 w t ht.symm)
  cases t
  · have : ¬ (1 ≤ n ∧ n ≤ 6) := by simpa using ht.symm
    rw [if_pos (by omega)] at hv
    rw [hv]
    clear hv ha hq this ht
    go_enter Tryd.func5, Tryd.ntmps5
    go_wp2_with fail
    refine (IN.out _).mono ?_; rintro e w2 ⟨rfl, rfl⟩
    go_wp2_with fail
    go_ret
    exact ⟨rfl, Drew.refl _⟩
  have hn : 1 ≤ n ∧ n ≤ 6 := by simpa using ht.symm
  rw [if_neg (by omega)] at hv
  clear ht
  by_cases h3 : 15 < q
  · rw [if_pos (by omega)] at hv
    rw [hv]
    have h3 : (15 : Int) < q := by omega
    clear hv ha hq hn
    go_enter Tryd.func5, Tryd.ntmps5
    go_wp2_with fail
    refine (IN.out _).mono ?_; rintro e w2 ⟨rfl, rfl⟩
    go_wp2_with fail
    go_ret
    exact ⟨rfl, Drew.refl _⟩
  rw [if_neg (by omega)] at hv
  obtain ⟨k, rfl⟩ : ∃ k : Nat, n = k := ⟨n.toNat, by omega⟩
  rw [Int.toNat_natCast] at hv
  have i3 : ¬ (15 : Int) < (q : Int) := by omega
  have HA := Lib.hid ha
  have HQ := Lib.hid hq
  have hk6 : k ≤ 6 := by omega
  have hk1 : 1 ≤ k := by omega
  have q15 : q ≤ 15 := by omega
  have G0 := Lib.hid (show pscd k m = pscd k (m.drop 0) from rfl)
  have EN := Lib.hid (fun (h : pscd k m = pscd k (m.drop q)) => show v = 0 by rw [hv, h, List.drop_of_length_le (by omega)]; rfl)
  have BD := Lib.hid (fun (j : Nat) (hj : j < q) (h : pscd k m = pscd k (m.drop j)) (z : Nat) (hz : ecd k (m.getD j []) = z) (h0 : z ≠ 0) => show v = z by rw [hv, h, pscd_drop (by omega), if_neg (by rw [hz]; exact h0), hz])
  have ST := Lib.hid (fun (j : Nat) (hj : j < q) (h : pscd k m = pscd k (m.drop j)) (h0 : ecd k (m.getD j []) = 0) => show pscd k m = pscd k (m.drop (j + 1)) by rw [h, pscd_drop (by omega), if_pos h0])
  clear ha hq hv hn h3
  go_enter Tryd.func5, Tryd.ntmps5
  go_wp2_with fail
  refine (IN.out _).mono ?_; rintro e w2 ⟨rfl, rfl⟩
  go_wp2_with fail
  go_loopw [5] (fun i wr => ∃ j : Nat, j ≤ q ∧ i = .int .i64 (j : Int) ∧ pscd k m = pscd k (m.drop j) ∧ Drew w wr) (fun i _ => q - (intOf i).toNat)
  case atStart => exact ⟨0, Nat.zero_le _, rfl, G0.out, Drew.refl _⟩
  case round =>
    obtain ⟨j, hj, rfl, hg, hd⟩ := hrel
    have HG := Lib.hid hg
    have HD := Lib.hid hd
    clear hg hd
    by_cases hlt : j < q
    · obtain ⟨ad, A1, d1, rfl, _, hc1, _, hr1⟩ := (HA.out.keep HD.out.kp) j (by have := HQ.out; omega)
      have B1 := Lib.hid (BD.out j hlt HG.out)
      have S1 := Lib.hid (ST.out j hlt HG.out)
      obtain ⟨l, hl⟩ : ∃ l, l = m.getD j [] := ⟨_, rfl⟩
      rw [← hl] at hc1 hr1 B1 S1
      clear hl
      by_cases h2 : l.length = 2
      · have HR := Lib.hid hr1
        have AL := Lib.hid (fun w (h : Lies w A1 l) => all_any A1 l d1 0 ((k : Int) - 1) w h (by omega))
        rw [h2] at AL hc1
        have AI := Lib.hid (allin_two (n := k) h2)
        have H2 := Lib.hid h2
        obtain ⟨a1, rfl, _, c0⟩ := hr1 0 (by omega)
        obtain ⟨a1', e', _, c1⟩ := hr1 1 (by omega)
        obtain rfl := Option.some.inj e'
        rw [add_zero'] at c0
        change wr.cell? ⟨a1.block, a1.off + 1, none⟩ = _ at c1
        have EC := Lib.hid (show ecd k l = if l.getD 0 0 = l.getD 1 0 then 3 else if (0 ≤ l.getD 0 0 ∧ l.getD 0 0 < k) ∧ 0 ≤ l.getD 1 0 ∧ l.getD 1 0 < k then 0 else 1 from if_neg fun y => y h2)
        obtain ⟨x, hx⟩ : ∃ x, x = l.getD 0 0 := ⟨_, rfl⟩
        obtain ⟨y, hy⟩ : ∃ y, y = l.getD 1 0 := ⟨_, rfl⟩
        rw [← hx] at c0 EC AI
        rw [← hy] at c1 EC AI
        clear hr1 h2 e' hx hy
        by_cases h3 : x = y
        · have e2 : (x == y) = true := by rw [beq_iff_eq]; exact h3
          have E := Lib.hid (B1.out 3 (by rw [EC.out, if_pos h3]) (by decide))
          clear h3 EC AI
          go_upto_region 11 with (fail)
          go_quiet (fail)
          go_wp2_with fail
          go_ret
          exact ⟨by rw [E.out]; rfl, HD.out.more _⟩
        · have e2 : (x == y) = false := by rw [beq_eq_false_iff_ne]; exact h3
          have EC2 := Lib.hid (EC.out.trans (if_neg h3))
          clear h3 EC
          go_upto_region 11 with (fail)
          go_quiet (fail)
          go_wp2_with fail
          refine (AL.out _ (HR.out.keep ((Kp.rfl' _).drewN _))).mono ?_; rintro e w4 ⟨ht, rfl⟩
          by_cases h4 : AllIn l 0 ((k : Int) - 1)
          · obtain rfl := tells_yes ht h4
            have S2 := Lib.hid (S1.out (EC2.out.trans (if_pos (AI.out.1 h4))))
            clear ht h4 EC2 AI
            go_wp2_with fail
            go_roundw
            case rel => exact ⟨j + 1, by omega, by go_num, S2.out, HD.out.more _⟩
            case measure => simp [intOf]; omega
          · obtain rfl := tells_no ht h4
            have E := Lib.hid (B1.out 1 (EC2.out.trans (if_neg fun y => h4 (AI.out.2 y))) (by decide))
            clear ht h4 EC2 AI
            go_wp2_with fail
            go_ret
            exact ⟨by rw [E.out]; rfl, HD.out.more _⟩
      · have e1 : ((l.length : Int) != 2) = true := by rw [bne_iff_ne]; omega
        have E := Lib.hid (B1.out 3 (if_pos h2) (by decide))
        clear hr1 h2
        go_wp2_with fail
        go_ret
        exact ⟨by rw [E.out]; rfl, HD.out⟩
    · obtain rfl : j = q := by omega
      have E := Lib.hid (EN.out HG.out)
      go_wp2_with fail
      go_ret
      exact ⟨by rw [E.out]; rfl, HD.out⟩

theorem btw_next {l : List (Nat × Nat)} {k : Nat} (hk : k < l.length) (a b : Nat) : Zx.btw a b (l.take (k + 1)) = Zx.btw a b (l.take k) + if (l.getD k (0, 0)).1 = a ∧ (l.getD k (0, 0)).2 = b ∨ (l.getD k (0, 0)).1 = b ∧ (l.getD k (0, 0)).2 = a then 1 else 0 := by
  rw [take_more (0, 0) hk, Zx.btw_cat]
  congr 1
  show 0 + _ = _
  omega
set_option maxRecDepth 100000 in
set_option maxHeartbeats 3200000 in
theorem rBtw_any {n : Nat} {l : List (Nat × Nat)} {m : List (List Int)} (s : Gr n l m) (A : Option Addr) (q d a b : Nat) (w : World) (ha : LiesM w A m) (hq : m.length = q) :
    Calls Tryd.prog 9 #[.slice A q d, .int .i64 (a : Int), .int .i64 (b : Int)] w fun e w' => e = .returned (.int .i64 (Zx.btw a b l : Int)) ∧ w = w' := by
  have HA := Lib.hid ha
  have HS := Lib.hid s
  have hql : q = l.length := by rw [← hq, s.len]
  have q15 : q ≤ 15 := by rw [hql]; exact s.few
  have HQ := Lib.hid hql
  have EN := Lib.hid (show Zx.btw a b (l.take q) = Zx.btw a b l by rw [hql, List.take_length])
  clear ha hq s hql
  go_enter Tryd.func9, Tryd.ntmps9
  go_wp2_with fail
  go_loop [7, 8] (fun v i => ∃ j : Nat, j ≤ q ∧ i = .int .i64 (j : Int) ∧ v = .int .i64 (Zx.btw a b (l.take j) : Int)) (fun _ i => q - (intOf i).toNat)
  case atStart => exact ⟨0, Nat.zero_le _, rfl, rfl⟩
  case round =>
    obtain ⟨j, hj, rfl, rfl⟩ := hrel
    by_cases hlt : j < q
    · obtain ⟨ad, A1, d1, rfl, _, hc1, _, hr1⟩ := HA.out j (by rw [HS.out.len, ← HQ.out]; exact hlt)
      rw [HS.out.at' (by rw [← HQ.out]; exact hlt)] at hc1 hr1
      obtain ⟨a1, rfl, _, c0⟩ := hr1 0 (by show 0 < 2; decide)
      obtain ⟨a1', e', _, c1⟩ := hr1 1 (by show 1 < 2; decide)
      obtain rfl := Option.some.inj e'
      have NX := btw_next (l := l) (k := j) (by rw [← HQ.out]; exact hlt) a b
      have BD := Zx.btw_le a b (l.take j)
      rw [List.length_take] at BD
      have hc1 : w.cell? (ad.add j) = some (.slice (some a1) 2 d1) := hc1
      generalize l.getD j (0, 0) = ev at *
      obtain ⟨X, Y⟩ := ev
      have c0 : w.cell? a1 = some (.int .i64 (X : Int)) := by rw [add_zero'] at c0; exact c0
      have c1 : w.cell? ⟨a1.block, a1.off + 1, none⟩ = some (.int .i64 (Y : Int)) := c1
      have NX : Zx.btw a b (l.take (j + 1)) = Zx.btw a b (l.take j) + if X = a ∧ Y = b ∨ X = b ∧ Y = a then 1 else 0 := NX
      generalize Zx.btw a b (l.take j) = M at *
      clear hr1 e'
      by_cases h1 : X = a
      · have b1 : ((X : Int) == (a : Int)) = true := by simp [h1]
        by_cases h2 : Y = b
        · have b2 : ((Y : Int) == (b : Int)) = true := by simp [h2]
          rw [if_pos (.inl ⟨h1, h2⟩)] at NX
          have NX := Lib.hid NX
          clear h1 h2
          go_wp2_with fail
          go_round
          case rel => exact ⟨j + 1, by omega, by go_num, by rw [NX.out]; go_num⟩
          case measure => simp [intOf]; omega
        · have b2 : ((Y : Int) == (b : Int)) = false := by rw [beq_eq_false_iff_ne]; omega
          by_cases h3 : X = b
          · have b3 : ((X : Int) == (b : Int)) = true := by simp [h3]
            by_cases h4 : Y = a
            · have b4 : ((Y : Int) == (a : Int)) = true := by simp [h4]
              rw [if_pos (.inr ⟨h3, h4⟩)] at NX
              have NX := Lib.hid NX
              clear h1 h2 h3 h4
              go_wp2_with fail
              go_round
              case rel => exact ⟨j + 1, by omega, by go_num, by rw [NX.out]; go_num⟩
              case measure => simp [intOf]; omega
            · have b4 : ((Y : Int) == (a : Int)) = false := by rw [beq_eq_false_iff_ne]; omega
              rw [if_neg (by omega)] at NX
              have NX := Lib.hid NX
              clear h1 h2 h3 h4
              go_wp2_with fail
              go_round
              case rel => exact ⟨j + 1, by omega, by go_num, by rw [NX.out]; go_num⟩
              case measure => simp [intOf]; omega
          · have b3 : ((X : Int) == (b : Int)) = false := by rw [beq_eq_false_iff_ne]; omega
            rw [if_neg (by omega)] at NX
            have NX := Lib.hid NX
            clear h1 h2 h3
            go_wp2_with fail
            go_round
            case rel => exact ⟨j + 1, by omega, by go_num, by rw [NX.out]; go_num⟩
            case measure => simp [intOf]; omega
      · have b1 : ((X : Int) == (a : Int)) = false := by rw [beq_eq_false_iff_ne]; omega
        by_cases h3 : X = b
        · have b3 : ((X : Int) == (b : Int)) = true := by simp [h3]
          by_cases h4 : Y = a
          · have b4 : ((Y : Int) == (a : Int)) = true := by simp [h4]
            rw [if_pos (.inr ⟨h3, h4⟩)] at NX
            have NX := Lib.hid NX
            clear h1 h3 h4
            go_wp2_with fail
            go_round
            case rel => exact ⟨j + 1, by omega, by go_num, by rw [NX.out]; go_num⟩
            case measure => simp [intOf]; omega
          · have b4 : ((Y : Int) == (a : Int)) = false := by rw [beq_eq_false_iff_ne]; omega
            rw [if_neg (by omega)] at NX
            have NX := Lib.hid NX
            clear h1 h3 h4
            go_wp2_with fail
            go_round
            case rel => exact ⟨j + 1, by omega, by go_num, by rw [NX.out]; go_num⟩
            case measure => simp [intOf]; omega
        · have b3 : ((X : Int) == (b : Int)) = false := by rw [beq_eq_false_iff_ne]; omega
          rw [if_neg (by omega)] at NX
          have NX := Lib.hid NX
          clear h1 h3
          go_wp2_with fail
          go_round
          case rel => exact ⟨j + 1, by omega, by go_num, by rw [NX.out]; go_num⟩
          case measure => simp [intOf]; omega
    · obtain rfl : j = q := by omega
      rw [EN.out]
      go_wp2_with fail
      go_ret
      exact ⟨rfl, rfl⟩

set_option maxHeartbeats 800000 in
theorem trees_nil {n : Nat} {l : List (Nat × Nat)} (W : Nat → Nat) (A B : Option Addr) (q d cw fr : Nat) (w : World) :
    Calls Tryd.prog 19 #[.slice A q d, .int .i64 (fr : Int), .slice B n cw, .int .i64 0] w fun e w' => e = .returned (.int .i64 (Zx.trs W (l.drop fr) 0 : Int)) ∧ Kp w w' := by
  have E := Lib.hid (show Zx.trs W (l.drop fr) 0 = 1 by cases l.drop fr <;> rfl)
  go_enter Tryd.func19, Tryd.ntmps19
  go_wp2_with fail
  go_ret
  exact ⟨by rw [E.out]; rfl, Kp.rfl' _⟩
theorem drop_more {l : List (Nat × Nat)} {k : Nat} (hk : k < l.length) : l.drop k = l.getD k (0, 0) :: l.drop (k + 1) := by
  rw [List.drop_eq_getElem_cons hk, List.getD_eq_getElem?_getD, List.getElem?_eq_getElem hk]; rfl
theorem join_lt {n : Nat} {W : Nat → Nat} (hW : ∀ i, i < n → W i < n) {a b : Nat} (ha : a < n) : ∀ i, i < n → Zx.join W a b i < n := fun i hi => by
  unfold Zx.join; split; exact ha; exact hW i hi
set_option maxRecDepth 100000 in
set_option maxHeartbeats 6400000 in
theorem trees_step {n : Nat} {l : List (Nat × Nat)} {m : List (List Int)} (s : Gr n l m) (A : Option Addr) (q d L : Nat) (hL : L ≤ 4) (hq : m.length = q)
    (ih : ∀ (W : Nat → Nat) (B : Option Addr) (cw fr : Nat) (w : World), LiesM w A m → Lies w B (Mx.row n fun i => (W i : Int)) → (∀ i, i < n → W i < n) → fr ≤ q →
      Calls Tryd.prog 19 #[.slice A q d, .int .i64 (fr : Int), .slice B n cw, .int .i64 (L : Int)] w fun e w' => e = .returned (.int .i64 (Zx.trs W (l.drop fr) L : Int)) ∧ Kp w w')
    (W : Nat → Nat) (B : Option Addr) (cw fr : Nat) (w : World) (ha : LiesM w A m) (hb : Lies w B (Mx.row n fun i => (W i : Int))) (hW : ∀ i, i < n → W i < n) (hf : fr ≤ q) :
    Calls Tryd.prog 19 #[.slice A q d, .int .i64 (fr : Int), .slice B n cw, .int .i64 ((L + 1 : Nat) : Int)] w fun e w' => e = .returned (.int .i64 (Zx.trs W (l.drop fr) (L + 1) : Int)) ∧ Kp w w' := by
  have HA := Lib.hid ha
  have HB := Lib.hid hb
  have HW := Lib.hid hW
  have HS := Lib.hid s
  have n6 := s.n6
  have hql : q = l.length := by rw [← hq, s.len]
  have q15 : q ≤ 15 := by rw [hql]; exact s.few
  have HQ := Lib.hid hql
  have IH := Lib.hid ih
  have ez : (((L + 1 : Nat) : Int) == 0) = false := by rw [beq_eq_false_iff_ne]; omega
  obtain ⟨T, hT⟩ : ∃ T, T = Zx.trs W (l.drop fr) (L + 1) := ⟨_, rfl⟩
  have T3 : T ≤ 3003 := by rw [hT]; exact Zx.trs_le (by rw [List.length_drop]; omega) (by omega)
  have EN := Lib.hid (fun (i : Nat) (h : q < i + (L + 1)) => Zx.trs_few (l.drop i) W (L + 1) (by rw [List.length_drop]; omega))
  have NX := Lib.hid (fun (i : Nat) (h : i < q) => show Zx.trs W (l.drop i) (L + 1) = if W (l.getD i (0, 0)).1 = W (l.getD i (0, 0)).2 then Zx.trs W (l.drop (i + 1)) (L + 1) else Zx.trs (Zx.join W (W (l.getD i (0, 0)).1) (W (l.getD i (0, 0)).2)) (l.drop (i + 1)) L + Zx.trs W (l.drop (i + 1)) (L + 1) by rw [drop_more (by omega)]; rfl)
  have S0 := Lib.hid (show 0 + Zx.trs W (l.drop fr) (L + 1) = T by rw [hT]; omega)
  rw [← hT]
  obtain ⟨LL, hLL⟩ : ∃ x, x = L + 1 := ⟨_, rfl⟩
  rw [← hLL] at ez EN NX S0 ⊢
  have hLi : (LL : Int) - 1 = (L : Int) := by omega
  have hL5 : LL ≤ 5 := by omega
  clear ha hb hW s hq hql ih hT hLL
  go_enter Tryd.func19, Tryd.ntmps19
  go_wp2_with fail
  go_loopw [9, 10] (fun v i wr => ∃ (j S : Nat), j ≤ q ∧ i = .int .i64 (j : Int) ∧ v = .int .i64 (S : Int) ∧ S + Zx.trs W (l.drop j) LL = T ∧ Kp w wr) (fun _ i _ => q - (intOf i).toNat)
  case atStart => exact ⟨fr, 0, hf, rfl, rfl, S0.out, Kp.rfl' _⟩
  case round =>
    obtain ⟨j, S, hj, rfl, rfl, hs, hk⟩ := hrel
    clear S0
    obtain ⟨wo, hwo⟩ : ∃ x, x = wr := ⟨_, rfl⟩
    subst hwo
    have SS := Lib.hid hs
    have KR := Lib.hid hk
    have S3 : S ≤ 3003 := by omega
    clear hs hk
    by_cases hlt : j + LL ≤ q
    · have hjq : j < q := by omega
      obtain ⟨ad, A1, d1, e0, _, hc1, _, hr1⟩ := (HA.out.keep KR.out) j (by rw [HS.out.len, ← HQ.out]; exact hjq)
      obtain rfl := e0
      rw [HS.out.at' (by rw [← HQ.out]; exact hjq)] at hc1 hr1
      obtain ⟨a1, rfl, _, c0⟩ := hr1 0 (by show 0 < 2; decide)
      obtain ⟨a1', e', _, c1⟩ := hr1 1 (by show 1 < 2; decide)
      obtain rfl := Option.some.inj e'
      have N1 := Lib.hid (NX.out j hjq)
      have hm := HS.out.mem (k := j) (by rw [← HQ.out]; exact hjq)
      have hc1 : wo.cell? (ad.add j) = some (.slice (some a1) 2 d1) := hc1
      generalize l.getD j (0, 0) = ev at *
      obtain ⟨X, Y⟩ := ev
      have c0 : wo.cell? a1 = some (.int .i64 (X : Int)) := by rw [add_zero'] at c0; exact c0
      have c1 : wo.cell? ⟨a1.block, a1.off + 1, none⟩ = some (.int .i64 (Y : Int)) := c1
      have hX : X < n := hm.1
      have hY : Y < n := hm.2.1
      have hlB := HB.out.keep KR.out
      obtain ⟨bd, rfl, _, d0⟩ := hlB.el hX
      obtain ⟨bd', e'', _, d2⟩ := hlB.el hY
      obtain rfl := Option.some.inj e''
      have N1 := Lib.hid (show Zx.trs W (l.drop j) LL = if W X = W Y then Zx.trs W (l.drop (j + 1)) LL else Zx.trs (Zx.join W (W X) (W Y)) (l.drop (j + 1)) L + Zx.trs W (l.drop (j + 1)) LL from N1.out)
      have hWX := HW.out X hX
      have JL := Lib.hid (join_lt HW.out (a := W X) (b := W Y) hWX)
      have JE := Lib.hid (fun t => show Zx.join W (W X) (W Y) t = if W t = W Y then W X else W t from rfl)
      clear hr1 e' e'' hm hlB
      generalize W X = a at *
      generalize W Y = b at *
      by_cases hab : a = b
      · have e1 : ((a : Int) == (b : Int)) = true := by simp [hab]
        have N2 := Lib.hid (N1.out.trans (if_pos hab))
        have hlti : (j : Int) + (LL : Int) ≤ (q : Int) := by omega
        clear hab JE
        go_wp2_with fail
        go_roundw
        case rel => exact ⟨j + 1, S, by omega, by go_num, rfl, by rw [← N2.out]; exact SS.out, KR.out⟩
        case measure => simp [intOf]; omega
      · have e1 : ((a : Int) == (b : Int)) = false := by rw [beq_eq_false_iff_ne]; omega
        have N2 := Lib.hid (N1.out.trans (if_neg hab))
        have hlti : (j : Int) + (LL : Int) ≤ (q : Int) := by omega
        obtain ⟨J, hJ⟩ : ∃ J, J = Zx.join W a b := ⟨_, rfl⟩
        rw [← hJ] at N2 JL JE
        have b1 : Zx.trs J (l.drop (j + 1)) L ≤ T := by have := SS.out; have := N2.out; omega
        have I1 := Lib.hid (fun B cw w h1 h2 => IH.out J B cw (j + 1) w h1 h2 JL.out (by omega))
        have b2 : S + Zx.trs J (l.drop (j + 1)) L ≤ 3003 := by have := SS.out; have := N2.out; omega
        have SN := Lib.hid (show S + Zx.trs J (l.drop (j + 1)) L + Zx.trs W (l.drop (j + 1)) LL = T by have := SS.out; have := N2.out; omega)
        generalize Zx.trs J (l.drop (j + 1)) L = Z at *
        clear hab hJ N1 N2
        have R0 := Lib.hid (show Own wo wo.heap.size (.slice none 0 0) (Mx.row 0 fun i => (J i : Int)) from Own.none _ _)
        go_wp2_with fail
        go_loopw [13, 14] (fun u i wq => ∃ t : Nat, t ≤ n ∧ i = .int .i64 (t : Int) ∧ Own wq wo.heap.size u (Mx.row t fun i => (J i : Int)) ∧ Kp wo wq) (fun _ i _ => n - (intOf i).toNat)
        case atStart => exact ⟨0, Nat.zero_le _, rfl, R0.out, Kp.rfl' _⟩
        case round =>
          obtain ⟨t, ht, rfl, hu, hkq⟩ := hrel
          clear R0
          obtain ⟨wd, hwd⟩ : ∃ x, x = wr := ⟨_, rfl⟩
          subst hwd
          have HU := Lib.hid hu
          have HK := Lib.hid hkq
          by_cases hlt2 : t < n
          · obtain ⟨bd', e'', _, x2⟩ := ((HB.out.keep KR.out).keep hkq).el hlt2
            obtain rfl := Option.some.inj e''
            have hlen : (Mx.row t fun i => (J i : Int)).length + 1 ≤ 17000000000000 := by rw [Mx.len_row]; omega
            have hsz := hkq.size
            have J1 := JE.out t
            have ER := Lib.hid (Mx.row_snoc t fun i => (J i : Int))
            generalize J t = z at *
            generalize W t = y at *
            clear hu hkq e''
            by_cases hyb : y = b
            · have e2 : ((y : Int) == (b : Int)) = true := by simp [hyb]
              rw [if_pos hyb] at J1
              have J2 := Lib.hid J1
              clear J1 hyb
              go_wp2_with (at_builtin; refine wpList_push rfl _ _ rfl wo.heap.size _ (Mx.row t fun i => (J i : Int)) (a : Int) wd.heap.size 1 rfl rfl (HU.out.new _) (by simp; done) hlen (Nat.le_trans hsz ((Kp.rfl' _).new _).size) ?_; intro v' w' h1 h2 _)
              have HU' := Lib.hid h1
              have HQ' := Lib.hid (own_below (HU.out.new _) (HK.out.new _) (Nat.le_trans hsz ((Kp.rfl' _).new _).size) h2)
              clear h1 h2
              go_wp2_with fail
              go_roundw
              case rel => exact ⟨t + 1, by omega, by go_num, by rw [ER.out, J2.out]; exact HU'.out, HQ'.out⟩
              case measure => simp [intOf]; omega
            · have e2 : ((y : Int) == (b : Int)) = false := by rw [beq_eq_false_iff_ne]; omega
              rw [if_neg hyb] at J1
              have J2 := Lib.hid J1
              clear J1 hyb
              go_wp2_with (at_builtin; refine wpList_push rfl _ _ rfl wo.heap.size _ (Mx.row t fun i => (J i : Int)) (y : Int) wd.heap.size 1 rfl rfl (HU.out.new _) (by simp; done) hlen (Nat.le_trans hsz ((Kp.rfl' _).new _).size) ?_; intro v' w' h1 h2 _)
              have HU' := Lib.hid h1
              have HQ' := Lib.hid (own_below (HU.out.new _) (HK.out.new _) (Nat.le_trans hsz ((Kp.rfl' _).new _).size) h2)
              clear h1 h2
              go_wp2_with fail
              go_roundw
              case rel => exact ⟨t + 1, by omega, by go_num, by rw [ER.out, J2.out]; exact HU'.out, HQ'.out⟩
              case measure => simp [intOf]; omega
          · obtain rfl : t = n := by omega
            obtain ⟨B2, c2, rfl, hl2⟩ := HU.out.lies
            rw [Mx.len_row] at HU ⊢
            have K2 := Lib.hid (KR.out.trans hkq)
            have I2 := Lib.hid (I1.out B2 c2 wd (HA.out.keep K2.out) hl2)
            have v1 : IntKind.i64.wrap ((S : Int) + (Z : Int)) = (S : Int) + (Z : Int) := IntWalk.i64_in _ (by omega)
            clear hu hkq hl2
            go_wp2_with fail
            refine (I2.out).mono ?_; rintro e w5 ⟨rfl, k5⟩
            have K5 := Lib.hid (K2.out.trans k5)
            clear k5
            go_wp2_with fail
            go_roundw
            case rel => exact ⟨j + 1, S + Z, by omega, by go_num, by go_num, SN.out, K5.out⟩
            case measure => simp [intOf]; omega
    · have ZE := EN.out j (by omega)
      have E := Lib.hid (show S = T by have := SS.out; omega)
      have hlti : ¬ (j : Int) + (LL : Int) ≤ (q : Int) := by omega
      clear ZE
      go_wp2_with fail
      go_ret
      exact ⟨by rw [E.out]; rfl, KR.out⟩
theorem trees_any {n : Nat} {l : List (Nat × Nat)} {m : List (List Int)} (s : Gr n l m) (A : Option Addr) (q d : Nat) (hq : m.length = q) : ∀ (L : Nat), L ≤ 5 →
    ∀ (W : Nat → Nat) (B : Option Addr) (cw fr : Nat) (w : World), LiesM w A m → Lies w B (Mx.row n fun i => (W i : Int)) → (∀ i, i < n → W i < n) → fr ≤ q →
      Calls Tryd.prog 19 #[.slice A q d, .int .i64 (fr : Int), .slice B n cw, .int .i64 (L : Int)] w fun e w' => e = .returned (.int .i64 (Zx.trs W (l.drop fr) L : Int)) ∧ Kp w w'
  | 0, _, W, B, cw, fr, w, _, _, _, _ => trees_nil W A B q d cw fr w
  | L + 1, hL, W, B, cw, fr, w, ha, hb, hW, hf => trees_step s A q d L (by omega) hq (trees_any s A q d hq L (by omega)) W B cw fr w ha hb hW hf

set_option maxRecDepth 100000 in
set_option maxHeartbeats 1600000 in
theorem rTrees_any {n : Nat} {l : List (Nat × Nat)} {m : List (List Int)} (s : Gr n l m) (A : Option Addr) (q d : Nat) (w : World) (ha : LiesM w A m) (hq : m.length = q) :
    Calls Tryd.prog 8 #[.int .i64 (n : Int), .slice A q d] w fun e w' => e = .returned (.int .i64 (trn n l : Int)) ∧ Kp w w' := by
  have HA := Lib.hid ha
  have n1 := s.n1
  have n6 := s.n6
  have TR := Lib.hid (fun B cw w h1 h2 => trees_any s A q d hq (n - 1) (by omega) (fun i => i) B cw 0 w h1 h2 (fun i hi => hi) (Nat.zero_le _))
  have hN : (n : Int) - 1 = ((n - 1 : Nat) : Int) := by omega
  have R0 := Lib.hid (show Own w w.heap.size (.slice none 0 0) (Mx.row 0 fun i => (i : Int)) from Own.none _ _)
  clear ha hq s
  go_enter Tryd.func8, Tryd.ntmps8
  go_wp2_with fail
  go_loopw [5, 6] (fun u i wq => ∃ t : Nat, t ≤ n ∧ i = .int .i64 (t : Int) ∧ Own wq w.heap.size u (Mx.row t fun i => (i : Int)) ∧ Kp w wq) (fun _ i _ => n - (intOf i).toNat)
  case atStart => exact ⟨0, Nat.zero_le _, rfl, R0.out, Kp.rfl' _⟩
  case round =>
    obtain ⟨t, ht, rfl, hu, hkq⟩ := hrel
    clear R0
    obtain ⟨wd, hwd⟩ : ∃ x, x = wr := ⟨_, rfl⟩
    subst hwd
    have HU := Lib.hid hu
    have HK := Lib.hid hkq
    by_cases hlt2 : t < n
    · have hlen : (Mx.row t fun i => (i : Int)).length + 1 ≤ 17000000000000 := by rw [Mx.len_row]; omega
      have hsz := hkq.size
      have ER := Lib.hid (Mx.row_snoc t fun i => (i : Int))
      clear hu hkq
      go_wp2_with (at_builtin; refine wpList_push rfl _ _ rfl w.heap.size _ (Mx.row t fun i => (i : Int)) (t : Int) wd.heap.size 1 rfl rfl (HU.out.new _) (by simp; done) hlen (Nat.le_trans hsz ((Kp.rfl' _).new _).size) ?_; intro v' w' h1 h2 _)
      have HU' := Lib.hid h1
      have HQ' := Lib.hid (own_below (HU.out.new _) (HK.out.new _) (Nat.le_trans hsz ((Kp.rfl' _).new _).size) h2)
      clear h1 h2
      go_wp2_with fail
      go_roundw
      case rel => exact ⟨t + 1, by omega, by go_num, by rw [ER.out]; exact HU'.out, HQ'.out⟩
      case measure => simp [intOf]; omega
    · obtain rfl : t = n := by omega
      obtain ⟨B2, c2, rfl, hl2⟩ := HU.out.lies
      rw [Mx.len_row] at HU ⊢
      have I2 := Lib.hid (TR.out B2 c2 wd (HA.out.keep HK.out) hl2)
      clear hu hkq hl2
      go_wp2_with fail
      refine (I2.out).mono ?_; rintro e w5 ⟨rfl, k5⟩
      have K5 := Lib.hid (HK.out.trans k5)
      clear k5
      go_wp2_with fail
      go_ret
      exact ⟨rfl, K5.out⟩

end Go.Proofs.YtgfhmffkdhfoeaaDoor
