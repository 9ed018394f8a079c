/- The document's Abs, Gcd, Trim, Content and plain on whole numbers of any size that fits; the program's Content. -/
import Derived.Test.YtbdpcpodmmhjaaaDoorSuRfV
import Derived.Test.YtbdpcpodmmhjaaaDoorStT
namespace Go.Proofs.YtbdpcpodmmhjaaaDoor
open Go.ChangeShapes Go.WideShapes Go.ChangeAt Go.RowKit
set_option linter.unusedVariables false

theorem abs_az (n : Int) : Stu.az n = (n.natAbs : Int) := by unfold Stu.az; split <;> omega
theorem absW_any (n : Int) (w : World) (h1 : -4000000000000000000 ≤ n) (h2 : n ≤ 4000000000000000000) :
    Calls Tryd.prog 31 #[.int .i64 n] w fun e w' => e = .returned (.int .i64 (Stu.az n)) ∧ w = w' := by
  unfold Stu.az
  by_cases h : n < 0
  · rw [if_pos h]
    have hw : IntKind.i64.wrap (-n) = -n := IntWalk.i64_in _ (by omega)
    go_enter Tryd.func31, Tryd.ntmps31
    go_wp2
    go_ret
    exact ⟨rfl, rfl⟩
  · rw [if_neg h]
    go_enter Tryd.func31, Tryd.ntmps31
    go_wp2
    go_ret
    exact ⟨rfl, rfl⟩
theorem gcdW_any (k : Nat) : ∀ (a b : Int) (w : World), b.natAbs ≤ k → -4000000000000000000 ≤ a → a ≤ 4000000000000000000 → -4000000000000000000 ≤ b → b ≤ 4000000000000000000 →
    Calls Tryd.prog 22 #[.int .i64 a, .int .i64 b] w fun e w' => e = .returned (.int .i64 (Int.gcd a b : Int)) ∧ w = w' := by
  have base : ∀ (a : Int) (w : World), -4000000000000000000 ≤ a → a ≤ 4000000000000000000 → Calls Tryd.prog 22 #[.int .i64 a, .int .i64 0] w fun e w' => e = .returned (.int .i64 (Int.gcd a 0 : Int)) ∧ w = w' := by
    intro a w h1 h2
    have E := Lib.hid (show Stu.az a = (Int.gcd a 0 : Int) by rw [Int.gcd_zero_right, abs_az])
    go_enter Tryd.func22, Tryd.ntmps22
    go_wp2_with fail
    refine (absW_any _ _ h1 h2).mono ?_; rintro e w' ⟨rfl, rfl⟩
    go_wp2_with fail
    go_ret
    exact ⟨by rw [← E.out]; rfl, rfl⟩
  induction k with
  | zero =>
    intro a b w hk h1 h2 h3 h4
    obtain rfl : b = 0 := by omega
    exact base a w h1 h2
  | succ k ih =>
    intro a b w hk h1 h2 h3 h4
    by_cases h : b = 0
    · subst h
      exact base a w h1 h2
    · have hb : (b == 0) = false := by rw [beq_eq_false_iff_ne]; exact h
      have hm : (a.tmod b).natAbs < b.natAbs := by rw [Int.natAbs_tmod]; exact Nat.mod_lt _ (by omega)
      have E := Lib.hid (Num.gcd_tmod a b)
      have IH := Lib.hid (ih b (a.tmod b))
      have HM := Lib.hid hm
      clear ih hm base
      go_enter Tryd.func22, Tryd.ntmps22
      go_wp2_with fail
      have hm := HM.out
      refine (IH.out _ (by omega) h3 h4 (by omega) (by omega)).mono ?_; rintro e w' ⟨rfl, rfl⟩
      go_wp2_with fail
      go_ret
      exact ⟨by rw [E.out]; rfl, rfl⟩

theorem tm_is (l : List Int) : Stu.tm l = l.take (Stu.tm l).length := by
  refine Stu.tm_ind (fun l => Stu.tm l = l.take (Stu.tm l).length) rfl (fun l ih => ?_) (fun l a ha => ?_) l
  · rw [Stu.tm_zero]
    have := (Stu.tm_facts l).2.1
    rw [List.take_append_of_le_length this]; exact ih
  · rw [Stu.tm_not _ ha, List.take_length]
theorem tm_take_ind {l : List Int} {n k : Nat} (hk : k < n) (hn : l.length = n) : (l.getD k 0 = 0 → Stu.tm (l.take (k + 1)) = Stu.tm (l.take k)) ∧ (l.getD k 0 ≠ 0 → Stu.tm (l.take (k + 1)) = l.take (k + 1)) := by
  rw [Stu.tm_take (by omega)]
  exact ⟨fun h => by rw [h, Stu.tm_zero], fun h => Stu.tm_not _ h⟩

set_option maxHeartbeats 1600000 in
theorem rTrimZ_any (A : Option Addr) (l : List Int) (n c : Nat) (w : World) (hl : Lies w A l) (hn : l.length = n) (hc : n ≤ c) (hb : n ≤ 1000000) :
    Calls Tryd.prog 42 #[.slice A n c] w fun e w' => e = .returned (.slice A (Stu.tm l).length c) ∧ w = w' := by
  have HL := Lib.hid hl
  have HN := Lib.hid hn
  obtain ⟨T, hT⟩ : ∃ T, T = Stu.tm l := ⟨_, rfl⟩
  rw [← hT]
  have HT := Lib.hid (show Stu.tm (l.take n) = T by rw [List.take_of_length_le (by omega), hT])
  clear hl hn hT
  go_enter Tryd.func42, Tryd.ntmps42
  go_wp2_with fail
  go_loop [3] (fun v => ∃ k : Nat, k ≤ n ∧ v = .int .i64 (k : Int) ∧ Stu.tm (l.take k) = T) (fun v => (intOf v).toNat)
  case atStart => exact ⟨n, Nat.le_refl _, rfl, HT.out⟩
  case round =>
    obtain ⟨k, hk, rfl, ht⟩ := hrel
    have HK := Lib.hid ht
    clear ht
    have kc : (k : Int) ≤ (c : Int) := by omega
    cases k with
    | zero =>
      have E := Lib.hid (show T = [] by rw [← HK.out]; rfl)
      go_wp2_with fail
      go_ret
      exact ⟨by rw [E.out]; rfl, rfl⟩
    | succ k =>
      obtain ⟨ad, rfl, _, x1⟩ := HL.out k (by have := HN.out; omega)
      obtain ⟨S1, S2⟩ := tm_take_ind (l := l) (n := n) (k := k) (by omega) HN.out
      have E1 := Lib.hid S1
      have E2 := Lib.hid S2
      obtain ⟨z, hz⟩ : ∃ z, z = l.getD k 0 := ⟨_, rfl⟩
      rw [← hz] at x1 E1 E2
      clear hz S1 S2
      by_cases h0 : z = 0
      · subst h0
        have R := Lib.hid (show Stu.tm (l.take k) = T by rw [← HK.out, E1.out rfl])
        go_wp2_with fail
        go_round
        case rel => exact ⟨k, by omega, by go_num, R.out⟩
        case measure => simp [intOf]
      · have e0 : (z == 0) = false := by rw [beq_eq_false_iff_ne]; exact h0
        have R := Lib.hid (show T.length = k + 1 by rw [← HK.out, E2.out h0, List.length_take, HN.out]; omega)
        clear h0
        go_wp2_with fail
        go_ret
        exact ⟨by rw [R.out]; rfl, rfl⟩

theorem gcl_snoc (l : List Int) (a : Int) : Stu.gcl (l ++ [a]) = (Int.gcd (Stu.gcl l) a : Int) := by
  unfold Stu.gcl; rw [List.foldl_append]; rfl
theorem gcd_le {g a M : Int} (hg : 0 ≤ g ∧ g ≤ M) (ha : -M ≤ a ∧ a ≤ M) : (Int.gcd g a : Int) ≤ M := by
  by_cases h : a = 0
  · subst h; rw [Int.gcd_zero_right]; omega
  · have h1 : (Int.gcd g a : Int) ∣ a := Int.gcd_dvd_right g a
    have h2 := Int.natAbs_dvd_natAbs.2 h1
    have h3 := Nat.le_of_dvd (by omega) h2
    rw [Int.natAbs_natCast] at h3
    omega
theorem gcl_le {M : Int} (hM : 0 ≤ M) (l : List Int) (h : Stu.Bn M l) : Stu.gcl l ≤ M := by
  have go : ∀ (l : List Int) (g : Int), 0 ≤ g → g ≤ M → Stu.Bn M l → l.foldl (fun g x => (Int.gcd g x : Int)) g ≤ M := by
    intro l
    induction l with
    | nil => intro g _ h _; exact h
    | cons a l ih => intro g h0 h1 hb; exact ih _ (Int.natCast_nonneg _) (gcd_le ⟨h0, h1⟩ (hb a (by simp))) fun z hz => hb z (List.mem_cons_of_mem _ hz)
  exact go l 0 (Int.le_refl _) hM h
theorem bnt {l : List Int} {B : Int} (h : Stu.Bn B l) (k : Nat) : Stu.Bn B (l.take k) := fun z hz => h z (List.mem_of_mem_take hz)

set_option maxHeartbeats 1600000 in
theorem rContent_any (A : Option Addr) (l : List Int) (n c : Nat) (M : Int) (w : World) (hl : Lies w A l) (hn : l.length = n) (hb : n ≤ 1000000) (h0 : 0 ≤ M) (hM : M ≤ 4000000000000000000) (bn : Stu.Bn M l) :
    Calls Tryd.prog 10 #[.slice A n c] w fun e w' => e = .returned (.int .i64 (Stu.gcl l)) ∧ w = w' := by
  have HL := Lib.hid hl
  have HN := Lib.hid hn
  have GB := Lib.hid (fun k => gcl_le h0 (l.take k) (bnt bn k))
  have AB := Lib.hid (fun k (hk : k < n) => bn_at bn (k := k) (by omega))
  obtain ⟨T, hT⟩ : ∃ T, T = Stu.gcl l := ⟨_, rfl⟩
  rw [← hT]
  have HT := Lib.hid (show Stu.gcl (l.take n) = T by rw [List.take_of_length_le (by omega), hT])
  have GC := Lib.hid (fun (a b : Int) (w : World) (h1 : -M ≤ a ∧ a ≤ M) (h2 : -M ≤ b ∧ b ≤ M) => gcdW_any b.natAbs a b w (Nat.le_refl _) (by omega) (by omega) (by omega) (by omega))
  clear hl hn bn hT
  go_enter Tryd.func10, Tryd.ntmps10
  go_wp2_with fail
  go_loop [3, 4] (fun v i => ∃ (k : Nat) (g : Int), k ≤ n ∧ i = .int .i64 (k : Int) ∧ v = .int .i64 g ∧ g = Stu.gcl (l.take k)) (fun _ i => n - (intOf i).toNat)
  case atStart => exact ⟨0, 0, Nat.zero_le _, rfl, rfl, rfl⟩
  case round =>
    obtain ⟨k, g, hk, rfl, rfl, hg⟩ := hrel
    have b1 := GB.out k
    have b0 := Stu.gcl_nn (l.take k)
    rw [← hg] at b1 b0
    have HG := Lib.hid hg
    clear hg
    by_cases hlt : k < n
    · obtain ⟨ad, rfl, _, x1⟩ := HL.out k (by have := HN.out; omega)
      have b2 := AB.out k hlt
      have ST := Lib.hid (show Stu.gcl (l.take (k + 1)) = (Int.gcd g (l.getD k 0) : Int) by rw [Stu.tm_take (by have := HN.out; omega), gcl_snoc, HG.out])
      generalize l.getD k 0 = a at *
      have C := Lib.hid (GC.out g a w (by omega) b2)
      generalize (Int.gcd g a : Int) = q at *
      clear b1 b0 b2
      go_wp2_with fail
      refine (C.out).mono ?_; rintro e w' ⟨rfl, rfl⟩
      go_wp2_with fail
      go_round
      case rel => exact ⟨k + 1, q, by omega, by go_num, rfl, ST.out.symm⟩
      case measure => simp [intOf]; omega
    · obtain rfl : k = n := by omega
      have E := Lib.hid (show g = T by rw [HG.out, HT.out])
      go_wp2_with fail
      go_ret
      exact ⟨by rw [E.out]; rfl, rfl⟩

set_option maxHeartbeats 1600000 in
theorem rPlain_any (A : Option Addr) (l : List Int) (n c : Nat) (M : Int) (w : World) (hl : Lies w A l) (hn : l.length = n) (hc : n ≤ c) (hb : n ≤ 1000) (h0 : 0 ≤ M) (hM : M ≤ 4000000000000000000) (bn : Stu.Bn M l) :
    Calls Tryd.prog 30 #[.slice A n c] w fun e w' => SomeRow (Stu.pl l) w e w' := by
  have TR := Lib.hid (rTrimZ_any A l n c w hl hn hc (by omega))
  have tl := (Stu.tm_facts l).2.1
  have tb : Stu.Bn M (Stu.tm l) := fun z hz => bn z (Stu.tm_sub l z hz)
  have lt : Lies w A (Stu.tm l) := by rw [tm_is]; exact hl.take _
  have tp := (Stu.tm_facts l).1
  have PL := Lib.hid (show Stu.pl l = (Stu.tm l).map fun x => x.tdiv (Stu.gcl (Stu.tm l)) from rfl)
  obtain ⟨P, hP⟩ : ∃ P, P = Stu.pl l := ⟨_, rfl⟩
  rw [← hP] at PL ⊢
  obtain ⟨t, ht⟩ : ∃ t, t = Stu.tm l := ⟨_, rfl⟩
  rw [← ht] at TR tl tb lt tp PL
  obtain ⟨m, hm⟩ : ∃ m, m = t.length := ⟨_, rfl⟩
  rw [← hm] at TR tl
  have CT := Lib.hid (rContent_any A t m c M w lt hm.symm (by omega) h0 hM tb)
  have gn := Stu.gcl_nn t
  have gp := Lib.hid (fun h : 0 < m => Stu.gcl_pos (l := t) (fun e => by rw [e] at hm; simp at hm; omega) tp)
  have DV := Lib.hid (fun k (hk : k < m) => Stu.tdiv_bd (x := t.getD k 0) (g := Stu.gcl t) (m := M) (bn_at tb (by omega)) (gp.out (by omega)) (Stu.gcl_dvd t (by
    rw [List.getD_eq_getElem?_getD, List.getElem?_eq_getElem (by omega)]
    exact List.getElem_mem _)))
  have HL := Lib.hid lt
  have HM := Lib.hid hm
  generalize Stu.gcl t = g at *
  have SN := Lib.hid (fun k (hk : k < m) => show P.take (k + 1) = P.take k ++ [(t.getD k 0).tdiv g] by
    rw [PL.out, Stu.tm_take (by rw [List.length_map]; omega), List.getD_eq_getElem?_getD, List.getElem?_map, List.getElem?_eq_getElem (by omega)]
    rw [List.getD_eq_getElem?_getD, List.getElem?_eq_getElem (by omega)]; rfl)
  have LP := Lib.hid (show P.length = m by rw [PL.out, List.length_map]; exact hm.symm)
  have m1 : m ≤ 1000 := by omega
  clear hl hn hP ht tb lt tp hm bn tl PL
  go_enter Tryd.func30, Tryd.ntmps30
  go_wp2_with fail
  refine (TR.out).mono ?_; rintro e w1 ⟨rfl, rfl⟩
  go_wp2_with fail
  refine (CT.out).mono ?_; rintro e w1 ⟨rfl, rfl⟩
  go_wp2_with fail
  go_loopw [4, 5] (fun v j wr => ∃ k : Nat, k ≤ m ∧ j = .int .i64 (k : Int) ∧ Own wr w.heap.size v (P.take k) ∧ Kp w wr) (fun _ j _ => m - (intOf j).toNat)
  case atStart => exact ⟨0, Nat.zero_le _, rfl, Own.none _ _, Kp.rfl' _⟩
  case round =>
    obtain ⟨k, hk, rfl, ho, hkp⟩ := hrel
    have HO := Lib.hid ho
    have HK := Lib.hid hkp
    clear ho hkp
    by_cases hlt : k < m
    · obtain ⟨ad, rfl, _, x1⟩ := (HL.out.keep HK.out) k (by have := HM.out; omega)
      have bd := DV.out k hlt
      have TK := Lib.hid (SN.out k hlt)
      have g0 : (g == 0) = false := by rw [beq_eq_false_iff_ne]; have := gp.out (by omega); omega
      have g1 : ¬ g = 0 := by have := gp.out (by omega); omega
      have hlen : (P.take k).length + 1 ≤ 17000000000000 := by rw [List.length_take]; omega
      have HSZ := HK.out.size
      generalize t.getD k 0 = a at *
      have hwd : IntKind.i64.wrap (a.tdiv g) = a.tdiv g := IntWalk.i64_in _ (by omega)
      clear bd gn
      go_wp2_with (at_builtin; refine wpList_push rfl _ _ rfl w.heap.size _ (P.take k) (a.tdiv g) wr.heap.size 1 rfl rfl (HO.out.new _) (cell_made _ _ _ _ 0 rfl) hlen (Nat.le_trans HSZ ((Kp.rfl' _).new _).size) ?_; intro v' w' h1 h2 _; have HO' := Lib.hid h1; have HK' := Lib.hid (show Kp w w' from own_below (HO.out.new _) (HK.out.new _) (Nat.le_trans HSZ ((Kp.rfl' _).new _).size) h2); clear h1 h2)
      go_roundw
      case rel => exact ⟨k + 1, by omega, by go_num, by rw [TK.out]; exact HO'.out, HK'.out⟩
      case measure => simp [intOf]; omega
    · obtain rfl : k = m := by omega
      have E := Lib.hid (show P.take k = P from List.take_of_length_le (by rw [LP.out]; exact Nat.le_refl _))
      go_wp2_with fail
      go_ret
      exact ⟨_, rfl, by rw [← E.out]; exact HO.out, HK.out⟩

set_option maxHeartbeats 1600000 in
theorem rTurns_any (A : Option Addr) (l : List Int) (n c : Nat) (w : World) (hl : Lies w A l) (hn : l.length = n) (hb : n ≤ 1000000) :
    Calls Tryd.prog 9 #[.slice A n c] w fun e w' => e = .returned (.int .i64 ((Stu.trn l : Nat) : Int)) ∧ w = w' := by
  have HL := Lib.hid hl
  have HN := Lib.hid hn
  obtain ⟨T, hT⟩ : ∃ T, T = Stu.trn l := ⟨_, rfl⟩
  rw [← hT]
  have HT := Lib.hid hT
  clear hl hn hT
  go_enter Tryd.func9, Tryd.ntmps9
  go_wp2_with fail
  go_loop [3, 4, 5] (fun s v i => ∃ (k q : Nat) (z : Int), k ≤ n ∧ q ≤ k ∧ i = .int .i64 (k : Int) ∧ s = .int .i64 (q : Int) ∧ v = .int .i64 z ∧ (z = 1 ∨ z = -1 ∨ z = 0) ∧ T = q + Stu.tr z ((l.drop k).map Stu.sgz)) (fun _ _ i => n - (intOf i).toNat)
  case atStart => exact ⟨0, 0, 0, Nat.zero_le _, Nat.le_refl _, rfl, rfl, rfl, .inr (.inr rfl), by rw [HT.out, Nat.zero_add]; rfl⟩
  case round =>
    obtain ⟨k, q, z, hk, hq, rfl, rfl, rfl, hz, ht⟩ := hrel
    have HQ := Lib.hid ht
    clear ht
    by_cases hlt : k < n
    · obtain ⟨ad, rfl, _, x1⟩ := HL.out k (by have := HN.out; omega)
      have MD := Lib.hid (map_drop (l := l) (k := k) (by have := HN.out; omega))
      obtain ⟨m, hm⟩ : ∃ m, m = l.getD k 0 := ⟨_, rfl⟩
      rw [← hm] at x1 MD
      have SG := Lib.hid (fun w' => rSign_any m w')
      have hs : Stu.sgz m = 1 ∨ Stu.sgz m = -1 ∨ Stu.sgz m = 0 := by
        rcases Stu.sgz_some m with ⟨h, _⟩ | ⟨h, _⟩ | ⟨h, _⟩
        · exact .inl h
        · exact .inr (.inl h)
        · exact .inr (.inr h)
      generalize Stu.sgz m = s at *
      clear hm
      have R := Lib.hid (show T = q + Stu.tr z (s :: (l.drop (k + 1)).map Stu.sgz) by rw [HQ.out, MD.out])
      by_cases h0 : s = 0
      · subst h0
        have R2 := Lib.hid (show T = q + Stu.tr z ((l.drop (k + 1)).map Stu.sgz) by rw [R.out, Stu.tr_nought])
        clear hs
        go_wp2_with fail
        refine (SG.out _).mono ?_; rintro e w' ⟨rfl, rfl⟩
        go_wp2_with fail
        go_round
        case rel => exact ⟨k + 1, q, z, by omega, by omega, by go_num, rfl, rfl, hz, R2.out⟩
        case measure => simp [intOf]; omega
      · have R2 := Lib.hid (show T = (q + if z = -s then 1 else 0) + Stu.tr s ((l.drop (k + 1)).map Stu.sgz) by rw [R.out, Stu.tr_cons _ _ h0]; omega)
        have HS := Lib.hid hs
        have hwn : IntKind.i64.wrap (-s) = -s := IntWalk.i64_in _ (by omega)
        have e0 : ¬ s = 0 := h0
        by_cases hzs : z = -s
        · have ez : (z == -s) = true := by rw [beq_iff_eq]; exact hzs
          have R3 := Lib.hid (show T = (q + 1) + Stu.tr s ((l.drop (k + 1)).map Stu.sgz) by rw [R2.out, if_pos hzs])
          clear hzs hs hz h0
          go_wp2_with fail
          refine (SG.out _).mono ?_; rintro e w' ⟨rfl, rfl⟩
          go_wp2_with fail
          go_round
          case rel => exact ⟨k + 1, q + 1, s, by omega, by omega, by go_num, by go_num, rfl, HS.out, R3.out⟩
          case measure => simp [intOf]; omega
        · have ez : (z == -s) = false := by rw [beq_eq_false_iff_ne]; exact hzs
          have R3 := Lib.hid (show T = q + Stu.tr s ((l.drop (k + 1)).map Stu.sgz) by rw [R2.out, if_neg hzs, Nat.add_zero])
          clear hzs hs hz h0
          go_wp2_with fail
          refine (SG.out _).mono ?_; rintro e w' ⟨rfl, rfl⟩
          go_wp2_with fail
          go_round
          case rel => exact ⟨k + 1, q, s, by omega, by omega, by go_num, rfl, rfl, HS.out, R3.out⟩
          case measure => simp [intOf]; omega
    · obtain rfl : k = n := by omega
      have E := Lib.hid (show T = q by rw [HQ.out, List.drop_eq_nil_of_le (by have := HN.out; omega)]; rfl)
      go_wp2_with fail
      go_ret
      exact ⟨by rw [E.out]; rfl, rfl⟩

end Go.Proofs.YtbdpcpodmmhjaaaDoor
