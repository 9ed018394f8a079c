/- The document's Chain, Signs, Ends and Whole; the program's Content. -/
import Derived.Test.YtbdpcpodmmhjaaaDoorSuRf3
namespace Go.Proofs.YtbdpcpodmmhjaaaDoor
open Go.ChangeShapes Go.WideShapes Go.ChangeAt Go.RowKit
set_option linter.unusedVariables false

theorem rst_one {L : List Int} (h : L.length = 1) : (Stu.lst (Stu.rst L)).length < 2 := by
  obtain ⟨x, rfl⟩ : ∃ x, L = [x] := by
    match L, h with
    | [x], _ => exact ⟨x, rfl⟩
  have e : Stu.rst [x] = [Stu.pl [x]] := by unfold Stu.rst; rw [if_pos (by rfl)]
  rw [e]
  show (Stu.pl [x]).length < 2
  rw [Stu.pl_len]
  have := (Stu.tm_facts [x]).2.1
  simp at this; omega
theorem rst_first (L : List Int) : (Stu.rst L).getD 0 [] = Stu.pl L := by unfold Stu.rst; split <;> rfl

set_option maxRecDepth 100000 in
set_option maxHeartbeats 3200000 in
theorem rChain_any (A : Option Addr) (L : List Int) (n c : Nat) (w : World) (ha : Lies w A L) (s : Whl n L) (hc : n ≤ c) :
    Calls Tryd.prog 8 #[.slice A n c] w fun e w' => ∃ A' c', e = .returned (.slice A' (Stu.chain L).length c') ∧ LiesM w' A' (Stu.chain L) ∧ Kp w w' := by
  have hn := s.len
  have n0 := s.n0
  have n4 := s.n4
  have RS := Lib.hid (rRests_any A L n c 20 w ha hn hc n0 n4 (by omega) (by omega) s.bn s.tp fun h => (Stu.chain_fits s.bn (by omega) (by omega) s.tp).1)
  obtain ⟨rl, rne⟩ := Stu.rst_len L
  have rp := List.length_pos_iff.2 rne
  have la := Stu.lst_at (Stu.rst L) rne
  have r0 := rst_first L
  have lpl : (Stu.pl L).length = n := by rw [Stu.pl_len, Stu.tm_tp s.tp]; exact hn
  have AG : ¬ (Stu.lst (Stu.rst L)).length < 2 → Stu.Again L := fun h => by
    by_cases h1 : L.length = 1
    · exact absurd (rst_one h1) h
    · exact (Stu.chain_fits s.bn (by omega) (by omega) s.tp).2 h
  have chE := show Stu.chain L = if (Stu.lst (Stu.rst L)).length < 2 then Stu.rst L else Stu.rst (Stu.dq (Stu.pl L) (Stu.lst (Stu.rst L))) from rfl
  have lstL : (Stu.lst (Stu.rst L)).length ≤ 4 := by
    by_cases h1 : L.length = 1
    · have := rst_one h1; omega
    · have := Stu.rst_len4 (f := L) (by omega) (by omega) s.tp (Stu.lst (Stu.rst L)) (by
        rw [la, List.getD_eq_getElem?_getD, List.getElem?_eq_getElem (by omega)]
        exact List.getElem_mem _)
      exact this
  obtain ⟨R, hR⟩ : ∃ R, R = Stu.rst L := ⟨_, rfl⟩
  obtain ⟨m, hm⟩ : ∃ m, m = R.length := ⟨_, rfl⟩
  obtain ⟨q, hq⟩ : ∃ q, m = q + 1 := ⟨m - 1, by rw [hm, hR]; omega⟩
  rw [← hR] at RS rl la r0 AG chE lstL
  rw [← hm] at RS rl
  rw [← hm] at la
  rw [show m - 1 = q by omega] at la
  have eqm : (m : Int) - 1 = (q : Int) := by omega
  have hwm : IntKind.i64.wrap ((m : Int) - 1) = (q : Int) := by rw [eqm]; exact IntWalk.i64_in _ (by omega)
  have hqm : q < m := by omega
  have HM := Lib.hid hm
  have m0 : 0 < m := by omega
  obtain ⟨d, hd⟩ : ∃ d, d = Stu.lst R := ⟨_, rfl⟩
  rw [← hd] at la chE lstL
  have LA := Lib.hid la
  have R0 := Lib.hid r0
  have LPL := Lib.hid lpl
  by_cases hl : d.length < 2
  · rw [if_pos hl] at chE
    have CE := Lib.hid chE
    clear ha s hR hm hq AG la r0 chE lpl hd eqm
    go_enter Tryd.func8, Tryd.ntmps8
    go_wp2_with fail
    refine (RS.out).mono ?_; rintro e w1 ⟨A1, c1, rfl, hc1, lm, k1⟩
    have K1 := Lib.hid k1
    obtain ⟨ad, A2, c2, rfl, _, x1, _, _⟩ := lm q (by have := HM.out; omega)
    rw [← LA.out] at x1
    have LM := Lib.hid lm
    obtain ⟨dl, hdl⟩ : ∃ x, x = d.length := ⟨_, rfl⟩
    rw [← hdl] at x1
    have hl' : (dl : Int) < 2 := by omega
    have HDL := Lib.hid hdl
    clear lm k1 hl hdl lstL
    go_wp2_with fail
    go_ret
    exact ⟨_, c1, by rw [CE.out, ← HM.out]; rfl, by rw [CE.out]; exact LM.out, K1.out⟩
  · have ag := AG (by rw [← hd]; exact hl)
    rw [if_neg hl] at chE
    obtain ⟨a1, a2, a3, a4, a5, a6, a7, a8⟩ := ag
    rw [← hR, ← hd] at a1 a2 a3 a4 a5 a6 a7 a8
    have d1 := List.length_pos_iff.2 a1
    obtain ⟨X, Y, hX, hY, ba, bb, fit2, cY, cX⟩ := a3.all (by omega) d1
    have SP := Lib.hid (fun (A1 A2 : Option Addr) (c1 c2 : Nat) (w' : World) (l1 : Lies w' A1 (Stu.pl L)) (l2 : Lies w' A2 d) (h : n ≤ c1) => rSplit_any A1 A2 (Stu.pl L) d n d.length c1 c2 w' l1 l2 lpl rfl h n4 d1 lstL X Y hX hY ba bb a2 (by rw [← lpl]; exact fit2) cY)
    have RQ := Lib.hid (fun (A1 : Option Addr) (c1 : Nat) (w' : World) (l1 : Lies w' A1 (Stu.dq (Stu.pl L) d)) (h : (Stu.dq (Stu.pl L) d).length ≤ c1) => rRests_any A1 (Stu.dq (Stu.pl L) d) _ c1 56000 w' l1 rfl h (by omega) (by omega) (by omega) (by omega) a7 a6 fun _ => a8)
    have CE := Lib.hid chE
    generalize Stu.dq (Stu.pl L) d = Q at *
    clear ha s hR hm hq AG la r0 chE lpl hd eqm a1 a2 a3 a4 a5 a6 a7 a8 hX hY ba bb fit2 cY cX
    go_enter Tryd.func8, Tryd.ntmps8
    go_wp2_with fail
    refine (RS.out).mono ?_; rintro e w1 ⟨A1, c1, rfl, hc1, lm, k1⟩
    have K1 := Lib.hid k1
    obtain ⟨ad, A2, c2, rfl, _, x1, hc2, l2⟩ := lm q (by have := HM.out; omega)
    rw [← LA.out] at x1 hc2 l2
    obtain ⟨ad', A3, c3, e', _, x3, hc3, l3⟩ := lm 0 (by have := HM.out; omega)
    obtain rfl := Option.some.inj e'
    rw [R0.out] at x3 hc3 l3
    rw [LPL.out] at x3 hc3
    have L2 := Lib.hid l2
    have L3 := Lib.hid l3
    have x0 : w1.cell? ad = some (.slice A3 n c3) := by rw [add_zero'] at x3; exact x3
    have T0 := Lib.hid (SP.out A3 A2 c3 c2 w1 L3.out L2.out hc3)
    obtain ⟨dl, hdl⟩ : ∃ x, x = d.length := ⟨_, rfl⟩
    rw [← hdl] at x1 T0
    have hl' : ¬ (dl : Int) < 2 := by omega
    have HDL := Lib.hid hdl
    clear lm k1 hl l2 l3 e' hc2 hdl lstL d1
    go_wp2_with fail
    refine (T0.out).mono ?_; rintro e w2 ⟨v1, v2, rfl, o1, _, k2⟩
    obtain ⟨A4, c4, hv4, l4, hc4⟩ := o1.cap
    subst hv4
    have K2 := Lib.hid k2
    have T := Lib.hid (RQ.out A4 c4 w2 l4 hc4)
    clear o1 l4 k2 SP RQ
    go_wp2_with fail
    refine (T.out).mono ?_; rintro e w3 ⟨A5, c5, rfl, _, lm, k3⟩
    have LM := Lib.hid lm
    have K3 := Lib.hid k3
    clear lm k3
    go_wp2_with fail
    go_ret
    exact ⟨A5, c5, by rw [CE.out]; rfl, by rw [CE.out]; exact LM.out, (K1.out.trans K2.out).trans K3.out⟩

set_option maxHeartbeats 1600000 in
theorem rSigns_any (A : Option Addr) (C : List (List Int)) (n c : Nat) (x : Int) (w : World) (hl : LiesM w A C) (hn : C.length = n) (n10 : n ≤ 10) (sz : ∀ g ∈ C, Stu.Sz g) (hx : -100 ≤ x ∧ x ≤ 100) :
    Calls Tryd.prog 15 #[.slice A n c, .int .i64 x] w fun e w' => e = .returned (.int .i64 ((Stu.vs C (x : Rat) : Nat) : Int)) ∧ Kp w w' := by
  obtain ⟨af, haf⟩ : ∃ af : List Int → Int, af = fun g => Stu.hv g x := ⟨_, rfl⟩
  have HL := Lib.hid hl
  have HN := Lib.hid hn
  have AFT := Lib.hid (fun (A' : Option Addr) (l : List Int) (m c' : Nat) (w' : World) (h1 : Lies w' A' l) (h2 : l.length = m) (h4 : l ∈ C) => by
    have := rVal_any A' l m c' x w' h1 h2 (sz l h4) hx
    rw [show Stu.hv l x = af l by rw [haf]] at this
    exact this)
  have VA := Lib.hid (show Stu.trn (C.map af) = Stu.vs C (x : Rat) by
    unfold Stu.trn Stu.vs
    rw [List.map_map, haf]
    congr 1
    refine List.map_congr_left fun g _ => ?_
    show Stu.sgz (Stu.hv g x) = _
    rw [Stu.hv_iv, ← Stu.sgz_sq])
  have TN := Lib.hid (fun (A' : Option Addr) (l : List Int) (c' : Nat) (w' : World) (h1 : Lies w' A' l) (h2 : l.length = n) => rTurns_any A' l n c' w' h1 h2 (by omega))
  generalize Stu.vs C (x : Rat) = V at *
  clear hl hn haf sz hx
  go_enter Tryd.func15, Tryd.ntmps15
  go_wp2_with fail
  go_loopw [5, 6] (fun v j wr => ∃ k : Nat, k ≤ n ∧ j = .int .i64 (k : Int) ∧ Own wr w.heap.size v ((C.take k).map af) ∧ Kp w wr) (fun _ j _ => n - (intOf j).toNat)
  case atStart => exact ⟨0, Nat.zero_le _, rfl, Own.none _ _, Kp.rfl' _⟩
  case round =>
    obtain ⟨k, hk, rfl, ho, hkp⟩ := hrel
    have HO := Lib.hid ho
    have HK := Lib.hid hkp
    clear ho hkp
    by_cases hlt : k < n
    · obtain ⟨ad, A', c', rfl, _, x1, hc', hl'⟩ := (HL.out.keep HK.out) k (by have := HN.out; omega)
      have hkC : k < C.length := by have := HN.out; omega
      have mem : C.getD k [] ∈ C := by
        rw [List.getD_eq_getElem?_getD, List.getElem?_eq_getElem hkC]; exact List.getElem_mem hkC
      have TK := Lib.hid (show (C.take (k + 1)).map af = (C.take k).map af ++ [af (C.getD k [])] by
        rw [List.take_add_one, List.getD_eq_getElem?_getD, List.getElem?_eq_getElem hkC, List.map_append]; rfl)
      have AF := Lib.hid (AFT.out A' (C.getD k []) _ c' wr hl' rfl mem)
      have hlen : ((C.take k).map af).length + 1 ≤ 17000000000000 := by rw [List.length_map, List.length_take]; omega
      have HSZ := HK.out.size
      generalize C.getD k [] = g at *
      generalize af g = z at *
      clear hl' mem hc'
      go_wp2_with fail
      refine (AF.out).mono ?_; rintro e w2 ⟨rfl, rfl⟩
      go_wp2_with (at_builtin; refine wpList_push rfl _ _ rfl w.heap.size _ ((C.take k).map af) z wr.heap.size 1 rfl rfl (HO.out.new _) (cell_made _ _ _ _ 0 rfl) hlen (Nat.le_trans HSZ ((Kp.rfl' _).new _).size) ?_; intro v' w' h1 h2 _; have HO' := Lib.hid h1; have HK' := Lib.hid (show Kp w w' from own_below (HO.out.new _) (HK.out.new _) (Nat.le_trans HSZ ((Kp.rfl' _).new _).size) h2); clear h1 h2)
      go_roundw
      case rel => exact ⟨k + 1, by omega, by go_num, by rw [TK.out]; exact HO'.out, HK'.out⟩
      case measure => simp [intOf]; omega
    · obtain rfl : k = n := by omega
      obtain ⟨A', c', rfl, l', _⟩ := HO.out.cap
      have LM := Lib.hid (show ((C.take k).map af).length = k by rw [List.length_map, List.length_take, HN.out]; omega)
      have VT := Lib.hid (show Stu.trn ((C.take k).map af) = V by rw [← VA.out, List.take_of_length_le (by rw [HN.out]; exact Nat.le_refl _)])
      rw [LM.out]
      have T := Lib.hid (TN.out A' ((C.take k).map af) c' wr l' LM.out)
      rw [VT.out] at T
      clear HO l'
      go_wp2_with fail
      refine (T.out).mono ?_; rintro e w2 ⟨rfl, rfl⟩
      go_wp2_with fail
      go_ret
      exact ⟨rfl, HK.out⟩

/-- The last factors, and those with the signs of odd powers turned. -/
def lowOf (g : List Int) : Int := if g.length % 2 = 0 then -(Stu.tp g) else Stu.tp g

set_option maxRecDepth 100000 in
set_option maxHeartbeats 3200000 in
theorem rEnds_any (A : Option Addr) (C : List (List Int)) (n c : Nat) (w : World) (hl : LiesM w A C) (hn : C.length = n) (n10 : n ≤ 10) (sz : ∀ g ∈ C, Stu.Sz g ∧ g ≠ []) :
    Calls Tryd.prog 7 #[.slice A n c] w fun e w' => e = .returned (.int .i64 (Stu.ends C)) ∧ Kp w w' := by
  have HL := Lib.hid hl
  have HN := Lib.hid hn
  have E := Lib.hid (show ((Stu.trn (C.map lowOf) : Nat) : Int) - ((Stu.trn (C.map Stu.tp) : Nat) : Int) = Stu.ends C by
    unfold Stu.ends Stu.trn Stu.lo Stu.hi
    rw [List.map_map, List.map_map]; rfl)
  have GD := Lib.hid (fun k (hk : k < n) => show (∃ t, (C.getD k []).length = t + 1 ∧ t ≤ 3) ∧ -4000000000000000000 ≤ Stu.tp (C.getD k []) ∧ Stu.tp (C.getD k []) ≤ 4000000000000000000 by
    have hkC : k < C.length := by omega
    obtain ⟨⟨h4, B, hB, hb, hS⟩, ne⟩ := sz (C.getD k []) (by rw [List.getD_eq_getElem?_getD, List.getElem?_eq_getElem hkC]; exact List.getElem_mem hkC)
    have l1 := List.length_pos_iff.2 ne
    have m := hb _ (Stu.tp_mem ne)
    have p := Int.mul_le_mul_of_nonneg_left (pow200 (C.getD k []).length) hB
    exact ⟨⟨(C.getD k []).length - 1, by omega, by omega⟩, by omega, by omega⟩)
  have TN := Lib.hid (fun (A' : Option Addr) (l : List Int) (c' : Nat) (w' : World) (h1 : Lies w' A' l) (h2 : l.length = n) => rTurns_any A' l n c' w' h1 h2 (by omega))
  have T1 := Stu.tr_zero ((C.map lowOf).map Stu.sgz)
  have T2 := Stu.tr_zero ((C.map Stu.tp).map Stu.sgz)
  rw [List.length_map, List.length_map] at T1 T2
  have TB := Lib.hid (show Stu.trn (C.map lowOf) ≤ 10 ∧ Stu.trn (C.map Stu.tp) ≤ 10 from ⟨by show Stu.tr 0 _ ≤ 10; omega, by show Stu.tr 0 _ ≤ 10; omega⟩)
  clear hl hn sz T1 T2
  go_enter Tryd.func7, Tryd.ntmps7
  go_wp2_with fail
  go_loopw [3, 4, 5] (fun u v j wr => ∃ k : Nat, k ≤ n ∧ j = .int .i64 (k : Int) ∧ Two w u v ((C.take k).map lowOf) ((C.take k).map Stu.tp) wr) (fun _ _ j _ => n - (intOf j).toNat)
  case atStart => exact ⟨0, Nat.zero_le _, rfl, Own.none _ _, Own.none _ _, (fun g h => by cases h), Kp.rfl' _⟩
  case round =>
    obtain ⟨k, hk, rfl, ht⟩ := hrel
    have HT := Lib.hid ht
    clear ht
    by_cases hlt : k < n
    · obtain ⟨ad, A', c', rfl, hbl, x0, hc', hl0⟩ := HL.out k (by have := HN.out; omega)
      have XK := Lib.hid (fun (wz : World) (kz : Kp w wz) => (kz.cell (p := ad.add k) (by rw [block_add]; exact hbl)).trans x0)
      have x1 := XK.out wr HT.out.kp
      have hl' := hl0.keep HT.out.kp
      have hkC : k < C.length := by have := HN.out; omega
      obtain ⟨⟨t, ht, t3⟩, b1, b2⟩ := GD.out k hlt
      have TK1 := Lib.hid (show (C.take (k + 1)).map lowOf = (C.take k).map lowOf ++ [lowOf (C.getD k [])] by
        rw [List.take_add_one, List.getD_eq_getElem?_getD, List.getElem?_eq_getElem hkC, List.map_append]; rfl)
      have TK2 := Lib.hid (show (C.take (k + 1)).map Stu.tp = (C.take k).map Stu.tp ++ [Stu.tp (C.getD k [])] by
        rw [List.take_add_one, List.getD_eq_getElem?_getD, List.getElem?_eq_getElem hkC, List.map_append]; rfl)
      have LW : lowOf (C.getD k []) = if (t + 1) % 2 = 0 then -(Stu.tp (C.getD k [])) else Stu.tp (C.getD k []) := by unfold lowOf; rw [ht]
      have hlen1 : ((C.take k).map lowOf).length + 1 ≤ 17000000000000 := by rw [List.length_map, List.length_take]; omega
      have hlen2 : ((C.take k).map Stu.tp).length + 1 ≤ 17000000000000 := by rw [List.length_map, List.length_take]; omega
      have HSZ := HT.out.kp.size
      obtain ⟨ad2, ea, _, x2⟩ := hl' t (by omega)
      have tpe : (C.getD k []).getD t 0 = Stu.tp (C.getD k []) := by unfold Stu.tp; rw [ht]; rfl
      rw [tpe] at x2
      subst ea
      obtain ⟨gl, hgl⟩ : ∃ gl, gl = t + 1 := ⟨_, rfl⟩
      rw [ht, ← hgl] at x1 XK
      rw [← hgl] at LW
      have hwt : IntKind.i64.wrap ((gl : Int) - 1) = (t : Int) := by rw [show (gl : Int) - 1 = (t : Int) by omega]; exact IntWalk.i64_in _ (by omega)
      have htg : t < gl := by omega
      generalize Stu.tp (C.getD k []) = z at *
      generalize lowOf (C.getD k []) = lw at *
      have hwz : IntKind.i64.wrap (-z) = -z := IntWalk.i64_in _ (by omega)
      clear hl' hc' b1 b2 tpe ht hgl hl0 x0
      rcases Nat.mod_two_eq_zero_or_one gl with e | e
      · have e1 : ((gl : Int) % 2 == 0) = true := by rw [beq_iff_eq]; omega
        rw [if_pos e] at LW
        subst LW
        clear e
        go_wp2_with fail
        go_quiet (fail)
        go_wp2_with (at_builtin; first
          | (refine wpList_push rfl _ _ rfl w.heap.size _ ((C.take k).map Stu.tp) z _ 1 rfl rfl (((HT.out.drewN _).new _).two) (cell_made _ _ _ _ 0 rfl) hlen2 (Nat.le_trans HSZ (((Kp.rfl' _).drewN _).new _).size) ?_; intro v' w' h1 h2 h3; have TA := Lib.hid ((((HT.out.drewN _).new _).symm).grown h1 h2 h3); have x1' := XK.out w' TA.out.kp; clear h1 h2 h3)
          | (refine wpList_push rfl _ _ rfl w.heap.size _ ((C.take k).map lowOf) (-z) _ 1 rfl rfl ((TA.out.symm.new _).one) (cell_made _ _ _ _ 0 rfl) hlen1 (Nat.le_trans TA.out.kp.size ((Kp.rfl' _).new _).size) ?_; intro v'' w'' h1 h2 h3; have TZ := Lib.hid ((TA.out.symm.new _).grown h1 h2 h3); clear h1 h2 h3))
        go_roundw
        case rel => exact ⟨k + 1, by omega, by go_num, by rw [TK1.out, TK2.out]; exact TZ.out⟩
        case measure => simp [intOf]; omega
      · have e1 : ((gl : Int) % 2 == 0) = false := by rw [beq_eq_false_iff_ne]; omega
        rw [if_neg (by omega)] at LW
        subst LW
        clear e
        go_wp2_with fail
        go_quiet (fail)
        go_wp2_with (at_builtin; first
          | (refine wpList_push rfl _ _ rfl w.heap.size _ ((C.take k).map Stu.tp) lw _ 1 rfl rfl (((HT.out.drewN _).new _).two) (cell_made _ _ _ _ 0 rfl) hlen2 (Nat.le_trans HSZ (((Kp.rfl' _).drewN _).new _).size) ?_; intro v' w' h1 h2 h3; have TA := Lib.hid ((((HT.out.drewN _).new _).symm).grown h1 h2 h3); have x1' := XK.out w' TA.out.kp; clear h1 h2 h3)
          | (refine wpList_push rfl _ _ rfl w.heap.size _ ((C.take k).map lowOf) lw _ 1 rfl rfl ((TA.out.symm.new _).one) (cell_made _ _ _ _ 0 rfl) hlen1 (Nat.le_trans TA.out.kp.size ((Kp.rfl' _).new _).size) ?_; intro v'' w'' h1 h2 h3; have TZ := Lib.hid ((TA.out.symm.new _).grown h1 h2 h3); clear h1 h2 h3))
        go_roundw
        case rel => exact ⟨k + 1, by omega, by go_num, by rw [TK1.out, TK2.out]; exact TZ.out⟩
        case measure => simp [intOf]; omega
    · obtain rfl : k = n := by omega
      obtain ⟨A1, c1, rfl, l1, _⟩ := HT.out.one.cap
      obtain ⟨A2, c2, rfl, l2, _⟩ := HT.out.two.cap
      have LM1 := Lib.hid (show ((C.take k).map lowOf).length = k by rw [List.length_map, List.length_take, HN.out]; omega)
      have LM2 := Lib.hid (show ((C.take k).map Stu.tp).length = k by rw [List.length_map, List.length_take, HN.out]; omega)
      have TA := Lib.hid (show C.take k = C from List.take_of_length_le (by rw [HN.out]; exact Nat.le_refl _))
      rw [LM1.out, LM2.out]
      have R1 := Lib.hid (TN.out A1 ((C.take k).map lowOf) c1 wr l1 LM1.out)
      have R2 := Lib.hid (TN.out A2 ((C.take k).map Stu.tp) c2 wr l2 LM2.out)
      rw [TA.out] at R1 R2
      have HK := Lib.hid HT.out.kp
      obtain ⟨tb1, tb2⟩ := TB.out
      generalize Stu.trn (C.map lowOf) = p at *
      generalize Stu.trn (C.map Stu.tp) = q at *
      have hw : IntKind.i64.wrap ((p : Int) - (q : Int)) = (p : Int) - (q : Int) := IntWalk.i64_in _ (by omega)
      clear HT l1 l2 hlt
      go_wp2_with fail
      refine (R1.out).mono ?_; rintro e w2 ⟨rfl, rfl⟩
      go_wp2_with fail
      refine (R2.out).mono ?_; rintro e w2 ⟨rfl, rfl⟩
      go_wp2_with fail
      go_ret
      exact ⟨by rw [← E.out]; rfl, HK.out⟩

set_option maxHeartbeats 1600000 in
theorem rWhole_any (A : Option Addr) (L : List Int) (n c : Nat) (w : World) (ha : Lies w A L) (hn : L.length = n) :
    Calls Tryd.prog 4 #[.slice A n c] w fun e w' => e = .returned (.int .i64 ((ucd L : Nat) : Int)) ∧ w = w' := by
  by_cases h0 : n = 0
  · rw [ucd_none (by omega), h0]
    clear ha hn h0
    go_enter Tryd.func4, Tryd.ntmps4
    go_wp2
    go_ret
    exact ⟨rfl, rfl⟩
  · have e0 : ((n : Int) == 0) = false := by rw [beq_eq_false_iff_ne]; omega
    by_cases h4 : 4 < n
    · rw [ucd_full (by omega)]
      have h4' : (4 : Int) < (n : Int) := by omega
      clear ha hn h0 h4
      go_enter Tryd.func4, Tryd.ntmps4
      go_wp2
      go_ret
      exact ⟨rfl, rfl⟩
    · have h4' : ¬ (4 : Int) < (n : Int) := by omega
      have AL := all_any A L c (-20) 20 w ha (by omega)
      rw [hn] at AL
      by_cases h2 : AllIn L (-20) 20
      · have AY := Lib.hid (show Calls Tryd.prog 17 #[.slice A n c, .int .i64 (-20), .int .i64 20] w (fun e w'' => e = .returned (.bool true) ∧ w = w'') from AL.mono fun e w'' ⟨ht, hw⟩ => ⟨tells_yes ht h2, hw⟩)
        obtain ⟨q, hq⟩ : ∃ q, n = q + 1 := ⟨n - 1, by omega⟩
        obtain ⟨ad, rfl, _, x1⟩ := ha q (by omega)
        have hqn : q < n := by omega
        have hwq : IntKind.i64.wrap ((n : Int) - 1) = (q : Int) := by rw [show (n : Int) - 1 = (q : Int) by omega]; exact IntWalk.i64_in _ (by omega)
        by_cases h3 : L.getD (L.length - 1) 0 = 0
        · rw [ucd_shape (by omega) (by omega) h2 h3]
          rw [show L.length - 1 = q by omega] at h3
          rw [h3] at x1
          clear ha hn h0 h4 AL h2 h3 hq
          go_enter Tryd.func4, Tryd.ntmps4
          go_wp2_with fail
          refine (AY.out).mono ?_; rintro e w1 ⟨rfl, rfl⟩
          go_wp2_with fail
          go_ret
          exact ⟨rfl, rfl⟩
        · rw [ucd_ok (by omega) (by omega) h2 h3]
          rw [show L.length - 1 = q by omega] at h3
          generalize L.getD q 0 = z at *
          have ez : (z == 0) = false := by rw [beq_eq_false_iff_ne]; exact h3
          clear ha hn h0 h4 AL h2 h3 hq
          go_enter Tryd.func4, Tryd.ntmps4
          go_wp2_with fail
          refine (AY.out).mono ?_; rintro e w1 ⟨rfl, rfl⟩
          go_wp2_with fail
          go_ret
          exact ⟨rfl, rfl⟩
      · have AY := Lib.hid (show Calls Tryd.prog 17 #[.slice A n c, .int .i64 (-20), .int .i64 20] w (fun e w'' => e = .returned (.bool false) ∧ w = w'') from AL.mono fun e w'' ⟨ht, hw⟩ => ⟨tells_no ht h2, hw⟩)
        rw [ucd_range (by omega) (by omega) h2]
        clear ha hn h0 h4 AL h2
        go_enter Tryd.func4, Tryd.ntmps4
        go_wp2_with fail
        refine (AY.out).mono ?_; rintro e w1 ⟨rfl, rfl⟩
        go_wp2_with fail
        go_ret
        exact ⟨rfl, rfl⟩

set_option maxHeartbeats 1600000 in
theorem UContent_bad (A : Option Addr) (L : List Int) (c : Nat) (w : World) (ha : Lies w A L) (h : ucd L ≠ 0) :
    Calls Tryd.prog 13 #[.slice A L.length c] w fun e w' => e = .returned (.tuple #[.int .i64 0, errOf (ucd L)]) ∧ Kp w w' := by
  have CK := Lib.hid (uChk_any A L c w ha)
  rw [errOf_ne _ h] at CK ⊢
  generalize ucd L = q at *
  generalize L.length = n at *
  clear ha h
  go_enter Tryd.func13, Tryd.ntmps13
  go_wp2_with fail
  refine (CK.out).mono ?_; rintro e w1 ⟨rfl, rfl⟩
  go_wp2_with fail
  go_ret2
  exact ⟨rfl, Kp.rfl' _⟩

set_option maxHeartbeats 1600000 in
theorem UContent_ok (A : Option Addr) (l : List Int) (n c : Nat) (w : World) (ha : Lies w A l) (s : Whl n l) :
    Calls Tryd.prog 13 #[.slice A n c] w fun e w' => e = .returned (.tuple #[.int .i64 (Stu.gcl l), .nilIface]) ∧ Kp w w' := by
  have CK := Lib.hid (uChk_any A l c w ha)
  rw [s.code, errOf_zero, s.len] at CK
  have HL := Lib.hid ha
  have HN := Lib.hid s.len
  have GB := Lib.hid (fun k => gcl_le (M := 20) (by omega) (l.take k) (bnt s.bn k))
  have AB := Lib.hid (fun k (hk : k < n) => bn_at s.bn (k := k) (by have := s.len; omega))
  obtain ⟨T, hT⟩ : ∃ T, T = Stu.gcl l := ⟨_, rfl⟩
  rw [← hT]
  have HT := Lib.hid (show Stu.gcl (l.take n) = T by rw [List.take_of_length_le (by rw [s.len]; exact Nat.le_refl _), hT])
  have n4 := s.n4
  clear ha s hT
  go_enter Tryd.func13, Tryd.ntmps13
  go_wp2_with fail
  refine (CK.out).mono ?_; rintro e w1 ⟨rfl, rfl⟩
  go_wp2_with fail
  go_loopw [5, 17] (fun v i wr => ∃ (k : Nat) (g : Int), k ≤ n ∧ i = .int .i64 (k : Int) ∧ v = .int .i64 g ∧ g = Stu.gcl (l.take k) ∧ Drew w wr) (fun _ i _ => n - (intOf i).toNat)
  case atStart => exact ⟨0, 0, Nat.zero_le _, rfl, rfl, rfl, Drew.refl _⟩
  case round =>
    obtain ⟨k, g, hk, rfl, rfl, hg, hdr⟩ := hrel
    have b1 := GB.out k
    have b0 := Stu.gcl_nn (l.take k)
    rw [← hg] at b1 b0
    have HG := Lib.hid hg
    have HD := Lib.hid hdr
    clear hg hdr
    by_cases hlt : k < n
    · obtain ⟨ad, rfl, _, x1⟩ := (HL.out.keep HD.out.kp) k (by have := HN.out; omega)
      have b2 := AB.out k hlt
      have ST := Lib.hid (show Stu.gcl (l.take (k + 1)) = (Int.gcd g (l.getD k 0) : Int) by rw [Stu.tm_take (by have := HN.out; omega), gcl_snoc, HG.out])
      generalize l.getD k 0 = a at *
      have C := Lib.hid (gcd_in g a wr (by omega) (by omega) (by omega) (by omega))
      generalize (Int.gcd g a : Int) = q at *
      clear b1 b0 b2
      go_wp2_with fail
      refine (C.out).mono ?_; rintro e w2 ⟨rfl, hd⟩
      have HD2 := Lib.hid (show Drew w w2 by obtain ⟨p1, h1⟩ := HD.out; obtain ⟨p2, h2⟩ := hd; exact ⟨p1 + p2, by rw [h2, h1, World.drewN_drewN]⟩)
      clear hd
      go_wp2_with fail
      go_roundw
      case rel => exact ⟨k + 1, q, by omega, by go_num, rfl, ST.out.symm, HD2.out⟩
      case measure => simp [intOf]; omega
    · obtain rfl : k = n := by omega
      have E := Lib.hid (show g = T by rw [HG.out, HT.out])
      go_wp2_with fail
      go_ret2
      exact ⟨by rw [E.out]; rfl, HD.out.kp⟩

end Go.Proofs.YtbdpcpodmmhjaaaDoor
