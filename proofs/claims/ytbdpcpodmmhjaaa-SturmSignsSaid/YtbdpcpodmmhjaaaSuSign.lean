/- The law SturmSigns, walked. -/
import Derived.Test.YtbdpcpodmmhjaaaSuFact
namespace Go.Proofs.Ytbdpcpodmmhjaaa
open Go.ChangeShapes Go.WideShapes Go.ChangeAt Go.RowKit
set_option linter.unusedVariables false

theorem od_at : ∀ (l : List Int) (b : Bool) (k : Nat), k < l.length → (Stu.od b l).getD k 0 = if b = (k % 2 == 0) then -(l.getD k 0) else l.getD k 0
  | [], _, k, h => absurd h (by simp)
  | a :: l, b, 0, _ => by cases b <;> rfl
  | a :: l, b, k + 1, h => by
    show (Stu.od (!b) l).getD k 0 = if b = ((k + 1) % 2 == 0) then -(l.getD k 0) else l.getD k 0
    rw [od_at l (!b) k (by simpa using h)]
    rcases Nat.mod_two_eq_zero_or_one k with e | e
    · rw [e, show (k + 1) % 2 = 1 by omega]; cases b <;> rfl
    · rw [e, show (k + 1) % 2 = 0 by omega]; cases b <;> rfl
theorem Whl.od {n : Nat} {L : List Int} (s : Whl n L) : Whl n (Stu.od false L) := by
  have g := Stu.od_good (c := [L]) (fun g hg => by rw [List.mem_singleton.1 hg]; exact ⟨s.ne, s.tp⟩) (Stu.od false L) (by simp)
  exact ⟨by rw [Stu.od_len]; exact s.len, s.n0, s.n4, Stu.od_bn s.bn false, g.2⟩

set_option maxRecDepth 100000 in
set_option maxHeartbeats 3200000 in
theorem walk_SturmSigns (A : Option Addr) (L : List Int) (d : Nat) (w : World) (ha : Lies w A L) (hd : L.length ≤ d) :
    Calls Try.prog 5 #[.slice A L.length d] w fun e w' => e = .returned (.bool true) ∧ Kp w w' := by
  have FA := Lib.hid (sturmFact_any w)
  rcases whl_or L with s | h
  · obtain ⟨n, hn⟩ : ∃ n, n = L.length := ⟨_, rfl⟩
    rw [← hn] at s hd ⊢
    have so := s.od
    have t1 := Stu.trn_lt s.ne
    have t2 := Stu.turns_both s.ne s.len4 s.tp
    have t3 : dv L 0 - dv L 100 ≤ (Stu.trn L : Int) := by
      have := Stu.descartes s.ne s.len4 s.tp (x := ((0 : Int) : Rat)) (y := ((100 : Int) : Rat)) (by decide) (by decide)
      unfold dv; omega
    have t4 : 0 ≤ dv L 0 - dv L 100 := by
      have := s.sturm.mono ((0 : Int) : Rat) ((100 : Int) : Rat) (by decide)
      unfold dv; omega
    have t5 := Stu.flip_ends s.ne s.len4 s.tp
    rw [← hn] at t1 t2
    have TN := Lib.hid (fun (w' : World) (k : Kp w w') => UTurns_ok A L n d w' (ha.keep k) s)
    have CO := Lib.hid (fun (w' : World) (k : Kp w w') => UCount_told A L n d 0 100 w' (ha.keep k) s hd (by decide))
    have AL := Lib.hid (fun (w' : World) (k : Kp w w') => UAll_ok A L n d w' (ha.keep k) s hd)
    have AO := Lib.hid (fun (B : Option Addr) (c : Nat) (w' : World) (hl : Lies w' B (Stu.od false L)) (hc : n ≤ c) => UAll_ok B (Stu.od false L) n c w' hl so hc)
    have TO := Lib.hid (fun (B : Option Addr) (c : Nat) (w' : World) (hl : Lies w' B (Stu.od false L)) => UTurns_ok B (Stu.od false L) n c w' hl so)
    rw [t5] at AO
    have HL := Lib.hid ha
    have LO := Lib.hid so.len
    have LN := Lib.hid s.len
    have n4 := s.n4
    have OA := Lib.hid (fun k (hk : k < n) => od_at L false k (by rw [← hn]; exact hk))
    have BN := Lib.hid (fun k (hk : k < n) => bn_at s.bn (k := k) (by rw [← hn]; exact hk))
    generalize Stu.ends (Stu.chain L) = E at *
    generalize dv L 0 - dv L 100 = m at *
    generalize Stu.trn L = p at *
    generalize Stu.trn (Stu.od false L) = q at *
    obtain ⟨O, hO⟩ : ∃ O, O = Stu.od false L := ⟨_, rfl⟩
    rw [← hO] at AO TO LO OA
    have q1 : decide ((p : Int) < m) = false := by rw [decide_eq_false_iff_not]; omega
    have q2 : decide (n ≤ p) = false := by rw [decide_eq_false_iff_not]; omega
    have q3 : (p : Int) + (q : Int) < (n : Int) := by omega
    have hw : IntKind.i64.wrap ((p : Int) + (q : Int)) = (p : Int) + (q : Int) := IntWalk.i64_in _ (by omega)
    clear ha s so hn hO t1 t2 t3 t4 t5
    go_enter Try.func5, Try.ntmps5
    go_wp2_with fail
    refine (FA.out).mono ?_; rintro e w1 ⟨rfl, k1⟩
    have K1 := Lib.hid k1
    clear k1 FA
    go_wp2_with fail
    refine (TN.out _ K1.out).mono ?_; rintro e w2 ⟨rfl, k2⟩
    have K2 := Lib.hid (K1.out.trans k2)
    clear k2 TN
    go_wp2_with fail
    refine (CO.out _ K2.out).mono ?_; rintro e w3 ⟨rfl, k3⟩
    have K3 := Lib.hid (K2.out.trans k3)
    clear k3 CO
    go_wp2_with fail
    go_loopw [7, 8] (fun v j wr => ∃ k : Nat, k ≤ n ∧ j = .int .i64 (k : Int) ∧ Own wr w.heap.size v (O.take k) ∧ Kp w wr) (fun _ j _ => n - (intOf j).toNat)
    case atStart => exact ⟨0, Nat.zero_le _, rfl, Own.none _ _, K3.out⟩
    case round =>
      obtain ⟨k, hk, rfl, ho, hkp⟩ := hrel
      have HO := Lib.hid ho
      have HK := Lib.hid hkp
      clear ho hkp
      by_cases hlt : k < n
      · obtain ⟨ad, rfl, _, x1⟩ := (HL.out.keep HK.out) k (by have := LN.out; omega)
        have TK := Lib.hid (Stu.tm_take (l := O) (k := k) (by rw [LO.out]; exact hlt))
        rw [OA.out k hlt] at TK
        have b := BN.out k hlt
        have hlen : (O.take k).length + 1 ≤ 17000000000000 := by rw [List.length_take]; omega
        have HSZ := HK.out.size
        generalize L.getD k 0 = a at *
        rcases Nat.mod_two_eq_zero_or_one k with e | e
        · have e1 : ((k : Int) % 2 == 1) = false := by rw [beq_eq_false_iff_ne]; omega
          rw [e, if_neg (by decide)] at TK
          clear e b
          go_wp2_with (at_builtin; refine wpList_push rfl _ _ rfl w.heap.size _ (O.take k) a wr.heap.size 1 rfl rfl (HO.out.new _) (cell_made _ _ _ _ 0 rfl) hlen (Nat.le_trans HSZ ((Kp.rfl' _).new _).size) ?_; intro v' w' h1 h2 _; have HO' := Lib.hid h1; have HK' := Lib.hid (show Kp w w' from own_below (HO.out.new _) (HK.out.new _) (Nat.le_trans HSZ ((Kp.rfl' _).new _).size) h2); clear h1 h2)
          go_roundw
          case rel => exact ⟨k + 1, by omega, by go_num, by rw [TK.out]; exact HO'.out, HK'.out⟩
          case measure => simp [intOf]; omega
        · have e1 : ((k : Int) % 2 == 1) = true := by rw [beq_iff_eq]; omega
          rw [e, if_pos (by decide)] at TK
          have hwa : IntKind.i64.wrap (-a) = -a := IntWalk.i64_in _ (by omega)
          clear e b
          go_wp2_with (at_builtin; refine wpList_push rfl _ _ rfl w.heap.size _ (O.take k) (-a) wr.heap.size 1 rfl rfl (HO.out.new _) (cell_made _ _ _ _ 0 rfl) hlen (Nat.le_trans HSZ ((Kp.rfl' _).new _).size) ?_; intro v' w' h1 h2 _; have HO' := Lib.hid h1; have HK' := Lib.hid (show Kp w w' from own_below (HO.out.new _) (HK.out.new _) (Nat.le_trans HSZ ((Kp.rfl' _).new _).size) h2); clear h1 h2)
          go_roundw
          case rel => exact ⟨k + 1, by omega, by go_num, by rw [TK.out]; exact HO'.out, HK'.out⟩
          case measure => simp [intOf]; omega
      · obtain rfl : k = n := by omega
        have TA := Lib.hid (show O.take k = O from List.take_of_length_le (by rw [LO.out]; exact Nat.le_refl _))
        rw [TA.out] at HO
        obtain ⟨B, c', rfl, l', hc'⟩ := HO.out.cap
        have LL := Lib.hid l'
        rw [LO.out] at hc' ⊢
        clear HO l' hlt
        go_wp2_with fail
        refine (AL.out _ HK.out).mono ?_; rintro e w4 ⟨rfl, k4⟩
        have K4 := Lib.hid (HK.out.trans k4)
        have L4 := Lib.hid (LL.out.keep k4)
        clear k4
        go_wp2_with fail
        refine (AO.out _ _ _ L4.out hc').mono ?_; rintro e w5 ⟨rfl, k5⟩
        have K5 := Lib.hid (K4.out.trans k5)
        have L5 := Lib.hid (L4.out.keep k5)
        clear k5
        go_wp2_with fail
        refine (TO.out _ _ _ L5.out).mono ?_; rintro e w6 ⟨rfl, k6⟩
        have K6 := Lib.hid (K5.out.trans k6)
        clear k6
        go_wp2_with fail
        go_ret
        exact ⟨rfl, K6.out⟩
  · have AL := Lib.hid (fun (w' : World) (k : Kp w w') => UTurns_bad A L d w' (ha.keep k) h)
    rw [errOf_ne _ h] at AL
    generalize ucd L = q at *
    generalize L.length = n at *
    clear ha h
    go_enter Try.func5, Try.ntmps5
    go_wp2_with fail
    refine (FA.out).mono ?_; rintro e w1 ⟨rfl, k1⟩
    have K1 := Lib.hid k1
    clear k1 FA
    go_wp2_with fail
    refine (AL.out _ K1.out).mono ?_; rintro e w2 ⟨rfl, k2⟩
    have K2 := Lib.hid (K1.out.trans k2)
    clear k2 AL
    go_wp2_with fail
    go_ret
    exact ⟨rfl, K2.out⟩

end Go.Proofs.Ytbdpcpodmmhjaaa
