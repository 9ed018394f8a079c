/- The plain law CrtOrder: the order of the congruences, and one of them twice, change nothing. -/
import Derived.Test.YteiblaajkakmdaaCrtLaw
import Derived.Test.YteiblaajkakmdaaSame
import Derived.Deep.RegionHeld3
import Derived.WalkSpells
namespace Go.Proofs.Yteiblaajkakmdaa
open Go.ChangeShapes Go.WideShapes Go.ChangeAt Go.RowKit
set_option linter.unusedVariables false

theorem add_zero (a : Addr) : a.add 0 = a := by unfold Addr.add; simp

/-- Two systems of the same congruences have the same answer. -/
theorem ans_same (rs ms rs' ms' : List Int) (x s c' x' s' : Int) (hf : Fine rs ms) (hs : CrtM.Sol (Pairs rs ms ms.length) x s) (hl : rs'.length = ms'.length) (h5 : ms'.length ≤ 5)
    (hp : ∀ p, Pairs rs' ms' ms'.length p ↔ Pairs rs ms ms.length p) (h : Ans rs' ms' c' x' s') : c' = 0 ∧ x' = x ∧ s' = s := by
  have hs' : CrtM.Sol (Pairs rs' ms' ms'.length) x s := CrtM.sol_of _ _ (fun p => (hp p).symm) x s hs
  have hf' : Fine rs' ms' := fun k hk => by
    obtain ⟨j, hj, e⟩ := (hp (rs'.getD k 0, ms'.getD k 0)).1 ⟨k, hk, rfl⟩
    have e1 := congrArg Prod.fst e
    have e2 := congrArg Prod.snd e
    simp only at e1 e2
    rw [e1, e2]
    exact hf j hj
  rcases h with ⟨a, rfl, rfl, rfl⟩ | ⟨a, b, rfl, rfl, rfl⟩ | ⟨a, b, f, rfl, rfl, rfl⟩ | ⟨a, b, f, no, rfl, rfl, rfl⟩ | ⟨a, b, f, hs2, l, rfl⟩
  · omega
  · exact absurd hl b
  · exact absurd hf' f
  · exact (CrtM.sol_not hs' no).elim
  · have := CrtM.sol_one _ _ _ _ _ hs2 hs'
    exact ⟨rfl, this.1, this.2⟩

theorem getD_reverse (l : List Int) (j : Nat) (h : j < l.length) : l.reverse.getD j 0 = l.getD (l.length - 1 - j) 0 := by
  simp only [List.getD_eq_getElem?_getD]
  rw [List.getElem?_reverse h]

theorem pairs_reverse (rs ms : List Int) (hl : rs.length = ms.length) (p : Int × Int) : Pairs rs.reverse ms.reverse ms.reverse.length p ↔ Pairs rs ms ms.length p := by
  rw [List.length_reverse]
  constructor
  · rintro ⟨j, hj, rfl⟩
    exact ⟨ms.length - 1 - j, by omega, by rw [getD_reverse _ _ (by omega), getD_reverse _ _ hj, hl]⟩
  · rintro ⟨j, hj, rfl⟩
    refine ⟨ms.length - 1 - j, by omega, ?_⟩
    rw [getD_reverse _ _ (by omega), getD_reverse _ _ (by omega), hl]
    have e : ms.length - 1 - (ms.length - 1 - j) = j := by omega
    rw [e]

theorem getD_snoc (l : List Int) (a : Int) (j : Nat) (h : j < l.length) : (l ++ [a]).getD j 0 = l.getD j 0 := by
  simp only [List.getD_eq_getElem?_getD]
  rw [List.getElem?_append_left h]
theorem getD_last (l : List Int) (a : Int) : (l ++ [a]).getD l.length 0 = a := by
  simp [List.getD_eq_getElem?_getD]

theorem pairs_again (rs ms : List Int) (hl : rs.length = ms.length) (h0 : 0 < ms.length) (p : Int × Int) :
    Pairs (rs ++ [rs.getD 0 0]) (ms ++ [ms.getD 0 0]) (ms ++ [ms.getD 0 0]).length p ↔ Pairs rs ms ms.length p := by
  rw [List.length_append]
  constructor
  · rintro ⟨j, hj, rfl⟩
    by_cases e : j < ms.length
    · exact ⟨j, e, by rw [getD_snoc _ _ _ (by omega), getD_snoc _ _ _ e]⟩
    · obtain rfl : j = ms.length := by simp at hj; omega
      refine ⟨0, h0, ?_⟩
      have e1 := getD_last rs (rs.getD 0 0)
      rw [hl] at e1
      rw [e1, getD_last]
  · rintro ⟨j, hj, rfl⟩
    exact ⟨j, by simp; omega, by rw [getD_snoc _ _ _ (by omega), getD_snoc _ _ _ hj]⟩

set_option maxHeartbeats 6400000 in
theorem walk_CrtOrder (A : Option Addr) (rs : List Int) (ca : Nat) (B : Option Addr) (ms : List Int) (cb : Nat) (w : World) (ha : Lies w A rs) (hb : Lies w B ms) :
    Calls Try.prog 5 #[.slice A rs.length ca, .slice B ms.length cb] w fun e w' => e = .returned (.bool true) ∧ Kp w w' := by
  have HA := Lib.hid ha
  have HB := Lib.hid hb
  clear ha hb
  go_enter Try.func5, Try.ntmps5
  go_wp2_with fail
  refine (fact_any _).mono ?_; rintro e w1 ⟨rfl, hk1⟩
  have K1 := Lib.hid hk1
  clear hk1
  go_wp2_with fail
  refine (solve_any A B rs ms ca cb _ (HA.out.keep K1.out) (HB.out.keep K1.out)).mono ?_; rintro e w2 ⟨⟨c, x, s, h, rfl⟩, hk2⟩
  have K2 := Lib.hid (K1.out.trans hk2)
  clear hk2 K1
  rcases ans_cases rs ms c x s h with ⟨hc, rfl, rfl⟩ | ⟨rfl, h5, hl, hf, hs, hb⟩
  · clear h
    rw [errOf_ne c hc]
    clear hc
    go_wp2_with fail
    go_ret
    exact ⟨rfl, K2.out⟩
  · rw [errOf_zero]
    have HL := Lib.hid hl
    have HF := Lib.hid hf
    have HS := Lib.hid hs
    have H5 := Lib.hid h5
    clear h hl hf hs hb h5
    go_wp2_with fail
    refine (turned_any A rs ca _ (HA.out.keep K2.out) (by have := HL.out; have := H5.out; omega)).mono ?_; rintro e w3 ⟨v1, rfl, ho1, hk3⟩
    have K3 := Lib.hid (K2.out.trans hk3)
    have O1 := Lib.hid ho1
    clear hk3 ho1 K2
    go_wp2_with fail
    refine (turned_any B ms cb _ (HB.out.keep K3.out) (by have := HL.out; have := H5.out; omega)).mono ?_; rintro e w4 ⟨v2, rfl, ho2, hk4⟩
    have K4 := Lib.hid (K3.out.trans hk4)
    obtain ⟨A1, c1, rfl, L1⟩ := (O1.out.kp hk4).lies
    obtain ⟨A2, c2, rfl, L2⟩ := ho2.lies
    have HL1 := Lib.hid L1
    have HL2 := Lib.hid L2
    clear hk4 ho2 O1 K3 L1 L2
    go_wp2_with fail
    have hsv := solve_any A1 A2 rs.reverse ms.reverse c1 c2 _ HL1.out HL2.out
    rw [List.length_reverse, List.length_reverse] at hsv
    (with_reducible refine hsv.mono ?_); clear hsv; rintro e w5 ⟨⟨c', x', s', h', rfl⟩, hk5⟩
    have K5 := Lib.hid (K4.out.trans hk5)
    obtain ⟨rfl, rfl, rfl⟩ := ans_same rs ms rs.reverse ms.reverse x s c' x' s' HF.out HS.out (by rw [List.length_reverse, List.length_reverse]; exact HL.out) (by rw [List.length_reverse]; exact H5.out) (pairs_reverse rs ms HL.out) h'
    rw [errOf_zero]
    clear h' hk5 K4 HL1 HL2
    obtain ⟨n, hn⟩ : ∃ n, n = ms.length := ⟨_, rfl⟩
    rw [HL.out, ← hn]
    have HN := Lib.hid hn
    have h5 : n ≤ 5 := by have := H5.out; omega
    clear hn
    by_cases h0 : n = 0
    · have t0 : ((n : Int) == 0) = true := by rw [beq_iff_eq]; omega
      clear h0
      go_wp2_with fail
      go_ret
      exact ⟨by simp, K5.out⟩
    by_cases h5' : n = 5
    · have t0 : ((n : Int) == 0) = false := by rw [beq_eq_false_iff_ne]; omega
      have t1 : ((n : Int) == 5) = true := by rw [beq_iff_eq]; omega
      clear h0 h5'
      go_wp2_with fail
      go_ret
      exact ⟨by simp, K5.out⟩
    have t0 : ((n : Int) == 0) = false := by rw [beq_eq_false_iff_ne]; omega
    have t1 : ((n : Int) == 5) = false := by rw [beq_eq_false_iff_ne]; omega
    have hrn : n = rs.length := by rw [HL.out]; exact HN.out
    have HRN := Lib.hid hrn
    have hsm : ([] : List Int).length + rs.length ≤ 17000000000000 := by rw [← hrn]; simp; omega
    have hsm2 : ([] : List Int).length + ms.length ≤ 17000000000000 := by rw [← HN.out]; simp; omega
    have HSM := Lib.hid hsm
    have HSM2 := Lib.hid hsm2
    clear hrn hsm hsm2
    go_wp2_with (first
      | (at_builtin; refine wpList_cat rfl (.tmp 74) (.tmp 75) rfl w.heap.size (.slice none 0 0) [] rs A n ca rfl rfl HRN.out (Own.none _ _) (HA.out.keep K5.out) HSM.out K5.out.size ?_; intro v6 w6 p1 p2 p3; have O6 := Lib.hid p1; have K6 := Lib.hid (own_below (Own.none w5 w.heap.size) K5.out K5.out.size p2); clear p1 p2 p3)
      | (at_builtin; refine wpList_cat rfl (.tmp 77) (.tmp 78) rfl w.heap.size (.slice none 0 0) [] ms B n cb rfl rfl HN.out (Own.none _ _) (HB.out.keep K6.out) HSM2.out K6.out.size ?_; intro v7 w7 p1 p2 p3; have TW := Lib.hid (two_start O6.out K6.out p1 p2 p3); clear p1 p2 p3))
    obtain ⟨ad, rfl, ha1, ha2⟩ := HA.out 0 (by have := HRN.out; omega)
    obtain ⟨bd, rfl, hb1, hb2⟩ := HB.out 0 (by have := HN.out; omega)
    have tw : Two w v6 v7 rs ms w7 := TW.out
    rw [add_zero] at ha2 hb2
    have hc := (tw.kp.cell (p := ad) ha1).trans ha2
    have hd := (tw.kp.cell (p := bd) hb1).trans hb2
    have HCALL : ∀ u6 u7 W, Two w u6 u7 (rs ++ [rs.getD 0 0]) (ms ++ [ms.getD 0 0]) W → Calls Try.prog 7 #[u6, u7] W fun e w' => e = .returned (.tuple #[.int .i64 x', .int .i64 s', .nilIface]) ∧ Kp w w' := by
      intro u6 u7 W t
      obtain ⟨A3, c3, rfl, L3⟩ := t.one.lies
      obtain ⟨A4, c4, rfl, L4⟩ := t.two.lies
      refine (solve_any A3 A4 _ _ c3 c4 _ L3 L4).mono ?_
      rintro e w9 ⟨⟨c', x1, s1, h', rfl⟩, hk9⟩
      obtain ⟨rfl, rfl, rfl⟩ := ans_same rs ms _ _ x' s' c' x1 s1 HF.out HS.out (by rw [List.length_append, List.length_append, HL.out]; rfl) (by rw [List.length_append]; have := HN.out; simp; omega) (pairs_again rs ms HL.out (by have := HN.out; omega)) h'
      exact ⟨rfl, t.kp.trans hk9⟩
    obtain ⟨r, hr⟩ : ∃ r, r = rs.getD 0 0 := ⟨_, rfl⟩
    obtain ⟨m, hm⟩ : ∃ m, m = ms.getD 0 0 := ⟨_, rfl⟩
    rw [← hr] at hc HCALL ha2
    rw [← hm] at hd HCALL hb2
    have HWA := Lib.hid ha2
    have HWB := Lib.hid hb2
    have HC := Lib.hid HCALL
    have HT := Lib.hid tw
    have e0 : (0 : Int) < n := by omega
    have hl1 := Lib.hid (show rs.length + 1 ≤ 17000000000000 by have := HRN.out; omega)
    have hl2 := Lib.hid (show ms.length + 1 ≤ 17000000000000 by have := HN.out; omega)
    have e0' : 0 < n := by omega
    clear hr hm ha2 hb2 HCALL tw TW HS HF H5 O6 K6 HSM HSM2 K5 HA HB
    go_region_held3 (fun w' => w'.cell? ad = some (.int .i64 r) ∧ w'.cell? bd = some (.int .i64 m))
      (first
      | go_keep
      | (refine ⟨World.grownBy.cell g6 ?_ (Two.ne HT.out ha1), World.grownBy.cell g6 ?_ (Two.ne HT.out hb1)⟩ <;> go_keep)
      | (refine ⟨World.grownBy.cell g7 ?_ (Two.ne HT.out.symm ha1), World.grownBy.cell g7 ?_ (Two.ne HT.out.symm hb1)⟩ <;> go_keep)
      | (refine ⟨World.grownBy.cell g67 ?_ (Two.ne HT.out ha1), World.grownBy.cell g67 ?_ (Two.ne HT.out hb1)⟩ <;> go_keep)
      | (refine ⟨World.grownBy.cell g76 ?_ (Two.ne HT.out.symm ha1), World.grownBy.cell g76 ?_ (Two.ne HT.out.symm hb1)⟩ <;> go_keep)
      | (exact ⟨(hk9.cell (p := ad) ha1).trans HWA.out, (hk9.cell (p := bd) hb1).trans HWB.out⟩))
      ((first
        | (refine step_two (by rfl) _ _ (by rfl) w v6 v7 rs ms r _ 1 (by rfl) (by rfl) ?_ ?_ hl1.out ?_; (· (repeat (first | exact HT.out | refine Two.new ?_ _ | refine Two.drew ?_))); (· (first | (simp; done) | (refine World.grownBy.cell g6 ?_ (Two.ne' HT.out ?_) <;> simp; done) | (refine World.grownBy.cell g7 ?_ (Two.ne' HT.out.symm ?_) <;> simp; done))); intro u6 y6 t6 g6)
        | (refine step_two (by rfl) _ _ (by rfl) w v7 v6 ms rs m _ 1 (by rfl) (by rfl) ?_ ?_ hl2.out ?_; (· (repeat (first | exact HT.out.symm | refine Two.new ?_ _ | refine Two.drew ?_))); (· (first | (simp; done) | (refine World.grownBy.cell g6 ?_ (Two.ne' HT.out ?_) <;> simp; done) | (refine World.grownBy.cell g7 ?_ (Two.ne' HT.out.symm ?_) <;> simp; done))); intro u7 y7 t7 g7)
        | (refine step_two (by rfl) _ _ (by rfl) w v6 u7 rs (ms ++ [m]) r _ 1 (by rfl) (by rfl) ?_ ?_ hl1.out ?_; (· (repeat (first | exact t7.symm | refine Two.new ?_ _ | refine Two.drew ?_))); (· (first | (simp; done) | (refine World.grownBy.cell g6 ?_ (Two.ne' HT.out ?_) <;> simp; done) | (refine World.grownBy.cell g7 ?_ (Two.ne' HT.out.symm ?_) <;> simp; done))); intro u6 y6 t67 g67)
        | (refine step_two (by rfl) _ _ (by rfl) w v7 u6 ms (rs ++ [r]) m _ 1 (by rfl) (by rfl) ?_ ?_ hl2.out ?_; (· (repeat (first | exact t6.symm | refine Two.new ?_ _ | refine Two.drew ?_))); (· (first | (simp; done) | (refine World.grownBy.cell g6 ?_ (Two.ne' HT.out ?_) <;> simp; done) | (refine World.grownBy.cell g7 ?_ (Two.ne' HT.out.symm ?_) <;> simp; done))); intro u7 y7 t76 g76)
        | (go_at_call 7; refine (HC.out _ _ _ ?_).mono ?_; (· (first | exact t67 | exact t76.symm)); rintro e y9 ⟨rfl, hk9⟩)))
    all_goals
      go_wp2_with fail
      go_ret
      exact ⟨by simp, by assumption⟩

end Go.Proofs.Yteiblaajkakmdaa
