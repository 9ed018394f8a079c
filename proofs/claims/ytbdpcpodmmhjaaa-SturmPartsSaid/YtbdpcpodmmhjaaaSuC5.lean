/- Contracts of package sturm: chain, Count, All, Turns, Content. -/
import Derived.Test.YtbdpcpodmmhjaaaSuC4
import Derived.Test.YtbdpcpodmmhjaaaBz
import Derived.Deep.Cut
import Derived.Deep.CutRange
import Derived.Deep.DeepCutAuto
namespace Go.Proofs.Ytbdpcpodmmhjaaa
open Go.ChangeShapes Go.WideShapes Go.ChangeAt Go.RowKit
set_option linter.unusedVariables false

set_option maxRecDepth 100000 in
set_option maxHeartbeats 3200000 in
theorem uchain_any (A : Option Addr) (L : List Int) (n c : Nat) (w : World) (ha : Lies w A L) (s : Whl n L) (hc : n ≤ c) :
    Calls Try.prog 21 #[.slice A n c] w fun e w' => ∃ A' c', e = .returned (.slice A' (Stu.pch L).length c') ∧ LiesM w' A' (Stu.pch L) ∧ Kp w w' := by
  have hn := s.len
  have n0 := s.n0
  have n4 := s.n4
  have SZ := Lib.hid (Stu.pch_sz s.ne (by omega) s.tp s.bn)
  have szL : Stu.Sz L := Stu.pch_sz s.ne (by omega) s.tp s.bn L (by unfold Stu.pch; split <;> simp)
  obtain ⟨w1, hw1⟩ : ∃ x, x = w.alloc (.cells #[.slice A n c] 22) := ⟨_, rfl⟩
  obtain ⟨rows1, off1, k1⟩ := rows_lit ha hn hc hw1
  have DER := Lib.hid (uder_any A L n c w1 (ha.keep k1) hn n0 hc szL)
  have OWN1 := rows1.own (by simp)
  have HST := Lib.hid (show ∀ (w2 : World) (v : Value) (A2 : Option Addr) (c2 : Nat), v = .slice A2 (Stu.slp L).length c2 → Own w2 w1.heap.size v (Stu.slp L) → (Stu.slp L).length ≤ c2 → Kp w1 w2 → Cha L w (.slice (some ⟨w.heap.size, 0, none⟩) 1 1) A A2 L (Stu.slp L) c c2 w2 from fun w2 v A2 c2 e ho hl2 k2 => by
    refine ⟨⟨[L], 8, rows1.keep k2, by simp, by rw [Stu.slp_len]; omega, pch_start L⟩, off1.keep k2, ?_, by omega, hl2, fun hne => ?_, k1.trans k2⟩
    · intro k hk
      obtain ⟨A', c', e', l'⟩ := ho.lies
      obtain ⟨g, c'', e'', hB, _⟩ := own_some ho (by omega)
      rw [e] at e' e''
      cases e'
      cases e''
      obtain ⟨ad, ea, hlt, hcell⟩ := l' k hk
      refine ⟨ad, ea, hlt, ?_, hcell⟩
      cases ea
      intro e3
      have e3 : some w.heap.size = some g := e3
      injection e3 with e3
      have : w1.heap.size = w.heap.size + 1 := by rw [hw1]; simp
      omega
    · have h2 : 2 ≤ L.length := by
        have := List.length_pos_iff.2 hne
        rw [Stu.slp_len] at this; omega
      exact ⟨(Stu.row_goo h2 (by omega) s.tp s.bn).2.2, (Stu.slp_tp h2 s.tp).1⟩)
  have HW := Lib.hid hw1
  have HN := Lib.hid hn
  have LEN := Lib.hid (Stu.pch_len L)
  clear ha s szL hw1 rows1 off1 OWN1 k1 hn SZ
  go_enter Try.func21, Try.ntmps21
  go_upto_region 2 with (fail)
  rw [← HW.out]
  go_wp2_with fail
  refine (DER.out).mono ?_; rintro e w2 ⟨v, rfl, ho, k2⟩
  obtain ⟨A2, c2, hv, l2, hc2⟩ := ho.cap
  have ST := Lib.hid (HST.out w2 v A2 c2 hv ho hc2 k2)
  rw [hv]
  clear ho k2 l2 hc2 HST DER hv
  go_wp2_with fail
  go_loopw [3, 4, 5] (fun u3 u4 u5 wr => ∃ (A1 A2 : Option Addr) (a b : List Int) (n1 n2 c1 c2 : Nat), u4 = .slice A1 n1 c1 ∧ u5 = .slice A2 n2 c2 ∧ a.length = n1 ∧ b.length = n2 ∧ Cha L w u3 A1 A2 a b c1 c2 wr) (fun _ _ u5 _ => lenOf u5)
  case atStart => exact ⟨A, A2, L, Stu.slp L, n, _, c, c2, rfl, rfl, HN.out, rfl, ST.out⟩
  case round =>
    clear ST
    obtain ⟨A1, A2, a, b, n1, n2, c1, c2, rfl, rfl, e1, e2, ch⟩ := hrel
    obtain ⟨D, j, hrows, hD, hj, hpch⟩ := ch.ex
    have HK := Lib.hid ch.kp
    have O1 := Lib.hid ch.o1
    have O2 := Lib.hid ch.o2
    have hl1 := ch.l1
    have hl2 := ch.l2
    by_cases h0 : n2 = 0
    · subst h0
      have hb0 : b = [] := List.eq_nil_of_length_eq_zero e2
      rw [if_pos hb0, List.append_nil] at hpch
      obtain ⟨A', c', rfl, hc', hm⟩ := hrows.lies
      have HM := Lib.hid hm
      have HP := Lib.hid hpch
      clear hrows hm ch hb0 hpch hj
      go_wp2_with fail
      go_ret
      exact ⟨A', c', by rw [← HP.out]; rfl, by rw [← HP.out]; exact HM.out, HK.out⟩
    · have hb0 : b ≠ [] := fun e => h0 (by rw [← e2, e]; rfl)
      rw [if_neg hb0] at hpch
      obtain ⟨goo, tb⟩ := ch.goo hb0
      have hlt : (0 : Int) < (n2 : Int) := by omega
      have HRW := Lib.hid hrows
      have hlen : D.length + 1 ≤ 1000000 := by
        have := LEN.out
        rw [← hpch, List.length_append, List.length_cons] at this
        omega
      have HE2 := Lib.hid e2
      have hl2' : n2 ≤ c2 := by omega
      have HSZ := HK.out.size
      by_cases h1 : n2 = 1
      · have HP := Lib.hid (show D ++ [b] = Stu.pch L by rw [← hpch, Stu.ptl_one (by omega) tb])
        subst h1
        clear hrows ch hpch hj goo tb hb0 h0 e2 e1 hD
        go_wp2_with (at_builtin; refine wpList_pushR rfl _ _ rfl w.heap.size _ D A2 b 1 c2 wr.heap.size 1 HE2.out hl2' rfl rfl (HRW.out.keep ((Kp.rfl' wr).new _)) (cell_made _ _ _ _ 0 rfl) (O2.out.keep ((Kp.rfl' wr).new _)) hlen (Nat.le_trans HSZ ((Kp.rfl' wr).new _).size) ?_; intro v' w' r1 r2 r3 r4; have R1 := Lib.hid r1; have K1 := Lib.hid (r4 w (Nat.le_refl _) (HK.out.new _)); clear r1 r2 r3 r4)
        obtain ⟨A', c', hv', hc', hm⟩ := R1.out.lies
        have HM := Lib.hid hm
        clear hm hc'
        subst hv'
        go_ret
        exact ⟨A', c', by rw [← HP.out]; rfl, by rw [← HP.out]; exact HM.out, K1.out⟩
      · have e1' : ((n2 : Int) == 1) = false := by rw [beq_eq_false_iff_ne]; omega
        have HP := Lib.hid hpch
        cases goo with
        | one h => exact absurd h (by omega)
        | more h2 X Y hX hY la ba bb tb' fit cap pa lb sz t =>
          obtain ⟨nl, nt⟩ := Stu.nr_len (f := a) hb0 tb
          have REST := Lib.hid (fun (w' : World) (l1 : Lies w' A1 a) (l2 : Lies w' A2 b) => urest_any A1 A2 a b n1 n2 c1 c2 w' l1 l2 e1 e2 (by omega) (by omega) (by omega) (by omega) X Y hX hY ba bb tb (by rw [← e1, ← e2]; exact fit) cap)
          have NXT := Lib.hid (show ∃ j', b.length = n2 ∧ (Stu.nr a b).length ≤ j' ∧ (D ++ [b]) ++ (if Stu.nr a b = [] then [] else Stu.nr a b :: Stu.ptl j' b (Stu.nr a b)) = Stu.pch L from by
            obtain ⟨j', rfl⟩ : ∃ j', j = j' + 1 := ⟨j - 1, by omega⟩
            refine ⟨j', e2, by omega, ?_⟩
            rw [← hpch, Stu.ptl, List.append_assoc]; rfl)
          have T := Lib.hid t
          have NT := Lib.hid nt
          have NLT := Lib.hid (show (Stu.nr a b).length < n2 by omega)
          clear hrows ch hpch hj tb hb0 h0 h1 e2 e1 hD h2 hX hY la ba bb tb' fit cap pa lb sz t nl nt
          go_wp2_with (at_builtin; refine wpList_pushR rfl _ _ rfl w.heap.size _ D A2 b n2 c2 wr.heap.size 1 HE2.out hl2' rfl rfl (HRW.out.keep ((Kp.rfl' wr).new _)) (cell_made _ _ _ _ 0 rfl) (O2.out.keep ((Kp.rfl' wr).new _)) hlen (Nat.le_trans HSZ ((Kp.rfl' wr).new _).size) ?_; intro v' w' r1 r2 r3 r4; have R1 := Lib.hid r1; have K1 := Lib.hid (r4 w (Nat.le_refl _) (HK.out.new _)); have P1 := Lib.hid ((O1.out.keep ((Kp.rfl' wr).new _)).push r2 r3); have P2 := Lib.hid ((O2.out.keep ((Kp.rfl' wr).new _)).push r2 r3); clear r1 r2 r3 r4)
          refine (REST.out _ P1.out.lies P2.out.lies).mono ?_; rintro e w3 ⟨A3, c3, rfl, hc3, l3, fr, k3⟩
          obtain ⟨gv, hgv, _, hgs⟩ := R1.out.own (by simp)
          have CH := Lib.hid (show Cha L w v' A2 A3 b (Stu.nr a b) c2 c3 w3 from by
            obtain ⟨j', hb', hj', hp'⟩ := NXT.out
            exact ⟨⟨D ++ [b], j', R1.out.keep k3, by simp, hj', hp'⟩, P2.out.keep k3, Off.of l3 hgv fun ad ea => by have := fr ad ea; omega, by omega, hc3, fun hne => ⟨T.out hne, NT.out⟩, K1.out.trans k3⟩)
          clear hc3 l3 fr k3 hgv hgs
          go_wp2_with fail
          go_roundw
          case rel => exact ⟨A2, A3, b, Stu.nr a b, _, _, c2, c3, rfl, rfl, HE2.out, rfl, CH.out⟩
          case measure => simp [lenOf]; exact NLT.out

theorem va_le (C : List (List Int)) (x : Int) : Stu.va C x ≤ C.length := by
  have := Stu.tr_le (C.map fun g => Stu.sgz (Stu.aft g.length g x)) 0
  rwa [List.length_map] at this

set_option maxHeartbeats 1600000 in
theorem UCount_bad (A : Option Addr) (L : List Int) (c : Nat) (x y : Int) (w : World) (ha : Lies w A L) (h : ucd L ≠ 0) :
    Calls Try.prog 13 #[.slice A L.length c, .int .i64 x, .int .i64 y] w fun e w' => e = .returned (.tuple #[.int .i64 0, errOf (ucd L)]) ∧ Kp w w' := by
  have CK := Lib.hid (uChk_any A L c w ha)
  rw [errOf_ne _ h] at CK ⊢
  generalize ucd L = q at *
  generalize L.length = n at *
  clear ha h
  go_enter Try.func13, Try.ntmps13
  go_wp2_with fail
  refine (CK.out).mono ?_; rintro e w1 ⟨rfl, rfl⟩
  go_wp2_with fail
  go_ret2
  exact ⟨rfl, Kp.rfl' _⟩

set_option maxHeartbeats 1600000 in
theorem UCount_off (A : Option Addr) (L : List Int) (n c : Nat) (x y : Int) (w : World) (ha : Lies w A L) (s : Whl n L) (h : ¬ (-100 ≤ x ∧ x ≤ 100 ∧ x ≤ y ∧ y ≤ 100)) :
    Calls Try.prog 13 #[.slice A n c, .int .i64 x, .int .i64 y] w fun e w' => e = .returned (.tuple #[.int .i64 0, errOf 1]) ∧ Kp w w' := by
  have CK := Lib.hid (uChk_any A L c w ha)
  rw [s.code, errOf_zero, s.len] at CK
  rw [errOf_ne 1 (by decide)]
  clear ha s
  go_enter Try.func13, Try.ntmps13
  go_wp2_with fail
  refine (CK.out).mono ?_; rintro e w1 ⟨rfl, rfl⟩
  by_cases h1 : x < -100
  · clear h
    go_wp2_with fail
    go_ret2
    exact ⟨rfl, Kp.rfl' _⟩
  · by_cases h2 : 100 < x
    · clear h
      go_wp2_with fail
      go_ret2
      exact ⟨rfl, Kp.rfl' _⟩
    · by_cases h3 : y < x
      · clear h
        go_wp2_with fail
        go_ret2
        exact ⟨rfl, Kp.rfl' _⟩
      · have h4 : 100 < y := by omega
        clear h
        go_wp2_with fail
        go_ret2
        exact ⟨rfl, Kp.rfl' _⟩

set_option maxHeartbeats 1600000 in
theorem UCount_ok (A : Option Addr) (L : List Int) (n c : Nat) (x y : Int) (w : World) (ha : Lies w A L) (s : Whl n L) (hc : n ≤ c) (h : -100 ≤ x ∧ x ≤ 100 ∧ x ≤ y ∧ y ≤ 100) :
    Calls Try.prog 13 #[.slice A n c, .int .i64 x, .int .i64 y] w fun e w' => e = .returned (.tuple #[.int .i64 ((Stu.va (Stu.pch L) x : Int) - (Stu.va (Stu.pch L) y : Int)), .nilIface]) ∧ Kp w w' := by
  obtain ⟨x1, x2, x3, x4⟩ := h
  have CK := Lib.hid (uChk_any A L c w ha)
  rw [s.code, errOf_zero, s.len] at CK
  have CH := Lib.hid (uchain_any A L n c w ha s hc)
  have PL := Stu.pch_len L
  have SZ := Stu.pch_sz s.ne (by have := s.len; have := s.n4; omega) s.tp s.bn
  have TA := Lib.hid (fun (z : Int) (hz : -100 ≤ z ∧ z ≤ 100) (A' : Option Addr) (c' : Nat) (w' : World) (hl : LiesM w' A' (Stu.pch L)) => uta_any A' (Stu.pch L) _ c' z w' hl rfl PL SZ hz)
  have va1 := va_le (Stu.pch L) x
  have va2 := va_le (Stu.pch L) y
  have g1 : ¬ x < -100 := by omega
  have g2 : ¬ 100 < x := by omega
  have g3 : ¬ y < x := by omega
  have g4 : ¬ 100 < y := by omega
  have TX := Lib.hid (TA.out x (by omega))
  have TY := Lib.hid (TA.out y (by omega))
  have hw : IntKind.i64.wrap ((Stu.va (Stu.pch L) x : Int) - (Stu.va (Stu.pch L) y : Int)) = (Stu.va (Stu.pch L) x : Int) - (Stu.va (Stu.pch L) y : Int) := IntWalk.i64_in _ (by omega)
  generalize Stu.va (Stu.pch L) x = p at *
  generalize Stu.va (Stu.pch L) y = q at *
  generalize (Stu.pch L).length = m at *
  clear ha s SZ TA x1 x2 x3 x4 va1 va2
  go_enter Try.func13, Try.ntmps13
  go_wp2_with fail
  refine (CK.out).mono ?_; rintro e w1 ⟨rfl, rfl⟩
  go_wp2_with fail
  refine (CH.out).mono ?_; rintro e w2 ⟨A', c', rfl, hm, k2⟩
  have M := Lib.hid hm
  have K2 := Lib.hid k2
  clear hm k2
  go_wp2_with fail
  refine (TX.out _ _ _ M.out).mono ?_; rintro e w3 ⟨rfl, k3⟩
  have M3 := Lib.hid (M.out.keep k3)
  have K3 := Lib.hid (K2.out.trans k3)
  clear k3
  go_wp2_with fail
  refine (TY.out _ _ _ M3.out).mono ?_; rintro e w4 ⟨rfl, k4⟩
  have K4 := Lib.hid (K3.out.trans k4)
  clear k4
  go_wp2_with fail
  go_ret2
  exact ⟨rfl, K4.out⟩

theorem UAll_bad (A : Option Addr) (L : List Int) (c : Nat) (w : World) (ha : Lies w A L) (h : ucd L ≠ 0) :
    Calls Try.prog 11 #[.slice A L.length c] w fun e w' => e = .returned (.tuple #[.int .i64 0, errOf (ucd L)]) ∧ Kp w w' := by
  have CN := Lib.hid (UCount_bad A L c (-21) 21 w ha h)
  generalize errOf (ucd L) = q at *
  generalize L.length = n at *
  clear ha h
  go_enter Try.func11, Try.ntmps11
  go_wp2_with fail
  refine (CN.out).mono ?_; rintro e w1 ⟨rfl, k1⟩
  have K := Lib.hid k1
  clear k1
  go_wp2_with fail
  go_ret2
  exact ⟨rfl, K.out⟩
theorem UAll_ok (A : Option Addr) (L : List Int) (n c : Nat) (w : World) (ha : Lies w A L) (s : Whl n L) (hc : n ≤ c) :
    Calls Try.prog 11 #[.slice A n c] w fun e w' => e = .returned (.tuple #[.int .i64 (Stu.ends (Stu.chain L)), .nilIface]) ∧ Kp w w' := by
  have CN := Lib.hid (UCount_ok A L n c (-21) 21 w ha s hc (by decide))
  rw [Stu.all_told s.ne (by have := s.len; have := s.n4; omega) s.tp s.bn] at CN
  generalize Stu.ends (Stu.chain L) = q at *
  clear ha s
  go_enter Try.func11, Try.ntmps11
  go_wp2_with fail
  refine (CN.out).mono ?_; rintro e w1 ⟨rfl, k1⟩
  have K := Lib.hid k1
  clear k1
  go_wp2_with fail
  go_ret2
  exact ⟨rfl, K.out⟩

theorem UTurns_bad (A : Option Addr) (L : List Int) (c : Nat) (w : World) (ha : Lies w A L) (h : ucd L ≠ 0) :
    Calls Try.prog 14 #[.slice A L.length c] w fun e w' => e = .returned (.tuple #[.int .i64 0, errOf (ucd L)]) ∧ Kp w w' := by
  have CK := Lib.hid (uChk_any A L c w ha)
  rw [errOf_ne _ h] at CK ⊢
  generalize ucd L = q at *
  generalize L.length = n at *
  clear ha h
  go_enter Try.func14, Try.ntmps14
  go_wp2_with fail
  refine (CK.out).mono ?_; rintro e w1 ⟨rfl, rfl⟩
  go_wp2_with fail
  go_ret2
  exact ⟨rfl, Kp.rfl' _⟩
theorem UTurns_ok (A : Option Addr) (L : List Int) (n c : Nat) (w : World) (ha : Lies w A L) (s : Whl n L) :
    Calls Try.prog 14 #[.slice A n c] w fun e w' => e = .returned (.tuple #[.int .i64 ((Stu.trn L : Nat) : Int), .nilIface]) ∧ Kp w w' := by
  have CK := Lib.hid (uChk_any A L c w ha)
  rw [s.code, errOf_zero, s.len] at CK
  have TN := Lib.hid (uturns_any A L n c w ha s.len (by have := s.n4; omega))
  generalize Stu.trn L = q at *
  clear ha s
  go_enter Try.func14, Try.ntmps14
  go_wp2_with fail
  refine (CK.out).mono ?_; rintro e w1 ⟨rfl, rfl⟩
  go_wp2_with fail
  refine (TN.out).mono ?_; rintro e w2 ⟨rfl, rfl⟩
  go_wp2_with fail
  go_ret2
  exact ⟨rfl, Kp.rfl' _⟩

end Go.Proofs.Ytbdpcpodmmhjaaa
