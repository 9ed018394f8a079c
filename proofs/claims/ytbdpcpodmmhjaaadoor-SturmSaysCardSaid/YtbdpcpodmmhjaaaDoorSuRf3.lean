/- The document's rests and Chain. -/
import Derived.Test.YtbdpcpodmmhjaaaDoorSuRf2
import Derived.Test.YtbdpcpodmmhjaaaDoorStW
import Derived.Deep.Cut
import Derived.Deep.CutRange
import Derived.Deep.DeepCutAuto
namespace Go.Proofs.YtbdpcpodmmhjaaaDoor
open Go.ChangeShapes Go.WideShapes Go.ChangeAt Go.RowKit
set_option linter.unusedVariables false

theorem Off.own {w : World} {B : Nat} {v u : Value} {A : Option Addr} {l : List Int} {c g : Nat} (h : Own w B u l) (e : u = .slice A l.length c) (hv : v.ownBlock = some g) (hg : g < B) : Off w v A l := fun k hk => by
  obtain ⟨A', c', e', l'⟩ := h.lies
  obtain ⟨g', c'', e'', hB, _⟩ := own_some h (by omega)
  rw [e] at e' e''
  cases e'
  cases e''
  obtain ⟨ad, ea, hlt, hcell⟩ := l' k hk
  refine ⟨ad, ea, hlt, ?_, hcell⟩
  cases ea
  rw [hv]
  intro e3
  injection e3 with e3
  have : g = g' := e3
  omega

/-- Where the document's loop stands. -/
structure Chd (L : List Int) (w0 : World) (v : Value) (A1 A2 : Option Addr) (a b : List Int) (c1 c2 : Nat) (w : World) : Prop where
  ex : ∃ (D : List (List Int)) (j : Nat), Rows w w0.heap.size v D ∧ D ≠ [] ∧ b.length ≤ j ∧ D ++ (if b = [] then [] else b :: Stu.tl j a b) = Stu.rst L
  o1 : Off w v A1 a
  o2 : Off w v A2 b
  l1 : a.length ≤ c1 ∧ a.length ≤ 4
  l2 : b.length ≤ c2 ∧ b.length ≤ 4
  fits : b ≠ [] → Stu.Fits a b ∧ Stu.Tp b
  kp : Kp w0 w

theorem neg_take (r : List Int) {k : Nat} (h : k < r.length) : (r.map (- ·)).take (k + 1) = (r.map (- ·)).take k ++ [-(r.getD k 0)] := by
  rw [Stu.tm_take (by rw [List.length_map]; exact h), neg_at]

set_option maxRecDepth 100000 in
set_option maxHeartbeats 12800000 in
theorem rRests_any (A : Option Addr) (L : List Int) (n c : Nat) (M : Int) (w : World) (ha : Lies w A L) (hn : L.length = n) (hc : n ≤ c) (n1 : 1 ≤ n) (n4 : n ≤ 4) (h0 : 0 ≤ M) (hM : M ≤ 300000) (bn : Stu.Bn M L) (tL : Stu.Tp L)
    (fits : 2 ≤ n → Stu.Fits (Stu.pl L) (Stu.pl (Stu.slp L))) :
    Calls Tryd.prog 19 #[.slice A n c] w fun e w' => ∃ A' c', e = .returned (.slice A' (Stu.rst L).length c') ∧ (Stu.rst L).length ≤ c' ∧ LiesM w' A' (Stu.rst L) ∧ Kp w w' := by
  have P1 := Lib.hid (rPlain_any A L n c M w ha hn hc (by omega) h0 (by omega) bn)
  have LP := Lib.hid (show (Stu.pl L).length = n by rw [Stu.pl_len, Stu.tm_tp tL]; exact hn)
  have bs := Stu.slp_bn h0 bn (by omega)
  have P2 := Lib.hid (fun (A2 : Option Addr) (m2 c2 : Nat) (w' : World) (hl : Lies w' A2 (Stu.slp L)) (hl2 : (Stu.slp L).length = m2) (hc2 : m2 ≤ c2) => rPlain_any A2 (Stu.slp L) m2 c2 (3 * M) w' hl hl2 hc2 (by have := Stu.slp_len L; omega) (by omega) (by omega) bs)
  have HL := Lib.hid ha
  have HN := Lib.hid hn
  have LEN := Lib.hid (Stu.rst_len L)
  have BN := Lib.hid (fun k (hk : k < n) => bn_at bn (k := k) (by omega))
  have LS := Lib.hid (Stu.slp_len L)
  have SK := Lib.hid (fun k => slk_snoc L k)
  have SA := Lib.hid (show slk L (n - 1) = Stu.slp L by rw [← slk_all, hn])
  have PB := Lib.hid (show Stu.pl (Stu.slp L) = [] ∧ Stu.rst L = [Stu.pl L] ∨ Stu.pl (Stu.slp L) ≠ [] ∧ 2 ≤ n ∧ (Stu.pl (Stu.slp L)).length = n - 1 ∧ Stu.Tp (Stu.pl (Stu.slp L)) ∧ Stu.rst L = Stu.pl L :: Stu.pl (Stu.slp L) :: Stu.tl 8 (Stu.pl L) (Stu.pl (Stu.slp L)) by
    by_cases h : n = 1
    · have e : Stu.pl (Stu.slp L) = [] := by rw [List.eq_nil_of_length_eq_zero (show (Stu.slp L).length = 0 by rw [Stu.slp_len]; omega)]; rfl
      exact .inl ⟨e, by unfold Stu.rst; rw [if_pos e]⟩
    · obtain ⟨_, _, l2, t2, _⟩ := Stu.pl_slope (show 2 ≤ L.length by omega) tL
      have e : Stu.pl (Stu.slp L) ≠ [] := fun e => by rw [e] at l2; simp at l2; omega
      exact .inr ⟨e, by omega, by rw [l2, hn], t2, by unfold Stu.rst; rw [if_neg e]⟩)
  have FT := Lib.hid fits
  clear ha hn bn tL fits bs
  go_enter Tryd.func19, Tryd.ntmps19
  go_wp2_with fail
  refine (P1.out).mono ?_; rintro e w1 ⟨v1, rfl, o1, k1⟩
  obtain ⟨A1, c1, hv1, la, hc1⟩ := o1.cap
  rw [LP.out] at hv1 hc1
  subst hv1
  obtain ⟨w2, hw2⟩ : ∃ x, x = w1.alloc (.cells #[.slice A1 n c1] 22) := ⟨_, rfl⟩
  obtain ⟨rows2, off2, k2⟩ := rows_lit la LP.out hc1 hw2
  have RW2 := Lib.hid rows2
  have OF2 := Lib.hid off2
  have K2 := Lib.hid k2
  have K12 := Lib.hid (Kp.trans k1 k2)
  have HW := Lib.hid hw2
  have S2 := Lib.hid (show w2.heap.size = w1.heap.size + 1 by rw [hw2]; simp)
  clear rows2 off2 k2 hw2 la o1 P1
  go_upto_region 5 with (fail)
  rw [← HW.out]
  go_loopw [5, 6] (fun v i wr => ∃ k t : Nat, k + 1 ≤ n ∧ t = k + 1 ∧ i = .int .i64 (t : Int) ∧ Own wr w2.heap.size v (slk L k) ∧ Kp w2 wr) (fun _ i _ => n - (intOf i).toNat)
  case atStart => exact ⟨0, 1, n1, rfl, rfl, Own.none _ _, Kp.rfl' _⟩
  case round =>
    obtain ⟨k, t, hk, ht, rfl, ho, hkp⟩ := hrel
    have HO := Lib.hid ho
    have HK := Lib.hid hkp
    clear ho hkp
    by_cases hlt : t < n
    · obtain ⟨ad, rfl, _, x1⟩ := (HL.out.keep (K12.out.trans HK.out)) t (by have := HN.out; omega)
      have b1 := BN.out t hlt
      have TK := Lib.hid (show slk L (k + 1) = slk L k ++ [(t : Int) * L.getD t 0] by rw [SK.out, ht]; rfl)
      have hlen : (slk L k).length + 1 ≤ 17000000000000 := by rw [slk_len]; omega
      have HSZ := HK.out.size
      have t4 : t ≤ 3 := by omega
      obtain ⟨z, hz⟩ : ∃ z, z = L.getD t 0 := ⟨_, rfl⟩
      rw [← hz] at x1 b1 TK
      have bp := Stu.prod_bd (a := (t : Int)) (b := z) (X := 3) (Y := 300000) (by omega) (by omega)
      have hwm : IntKind.i64.wrap ((t : Int) * z) = (t : Int) * z := IntWalk.i64_in _ (by omega)
      have HT := Lib.hid ht
      clear hz bp b1 ht
      go_wp2_with (at_builtin; refine wpList_push rfl _ _ rfl w2.heap.size _ (slk L k) ((t : Int) * z) wr.heap.size 1 rfl rfl (HO.out.new _) (cell_made _ _ _ _ 0 rfl) hlen (Nat.le_trans HSZ ((Kp.rfl' _).new _).size) ?_; intro v' w' h1 h2 _; have HO' := Lib.hid h1; have HK' := Lib.hid (show Kp w2 w' from own_below (HO.out.new _) (HK.out.new _) (Nat.le_trans HSZ ((Kp.rfl' _).new _).size) h2); clear h1 h2)
      go_roundw
      case rel => exact ⟨k + 1, t + 1, by have := HT.out; omega, by have := HT.out; omega, by go_num, by rw [TK.out]; exact HO'.out, HK'.out⟩
      case measure => simp [intOf]; omega
    · obtain rfl : t = n := by omega
      have E := Lib.hid (show slk L k = Stu.slp L by rw [← SA.out, show t - 1 = k by omega])
      have HT := Lib.hid ht
      clear ht hk
      rw [E.out] at HO
      obtain ⟨A3, c3, rfl, l3, hc3⟩ := HO.out.cap
      obtain ⟨m3, hm3⟩ : ∃ m, m = (Stu.slp L).length := ⟨_, rfl⟩
      rw [← hm3] at hc3 ⊢
      have P3 := Lib.hid (P2.out A3 m3 c3 wr l3 hm3.symm hc3)
      obtain ⟨ws, hws⟩ : ∃ x, x = wr := ⟨_, rfl⟩
      subst hws
      have KS := Lib.hid HK.out
      clear l3 P2 HO hm3 hlt
      go_wp2_with fail
      refine (P3.out).mono ?_; rintro e w4 ⟨v4, rfl, o4, k4⟩
      obtain ⟨A4, c4, hv4, l4, hc4⟩ := o4.cap
      have ST := Lib.hid (show Chd L w1 (.slice (some ⟨w1.heap.size, 0, none⟩) 1 1) A1 A4 (Stu.pl L) (Stu.pl (Stu.slp L)) c1 c4 w4 by
        have kk := KS.out.trans k4
        have k14 := K2.out.trans kk
        have lpl : (Stu.pl (Stu.slp L)).length ≤ 4 := by
          rcases PB.out with ⟨h, _⟩ | ⟨_, _, h, _⟩
          · rw [h]; simp
          · omega
        refine ⟨⟨[Stu.pl L], 8, RW2.out.keep kk, by simp, by omega, ?_⟩, OF2.out.keep kk, Off.own o4 hv4 (g := w1.heap.size) rfl (by have := S2.out; have := KS.out.size; omega), ⟨by have := LP.out; omega, by have := LP.out; omega⟩, ⟨hc4, lpl⟩, fun hne => ?_, k14⟩
        · rcases PB.out with ⟨h, h2⟩ | ⟨h, _, _, _, h2⟩
          · rw [if_pos h, h2, List.append_nil]
          · rw [if_neg h, h2]; rfl
        · rcases PB.out with ⟨h, _⟩ | ⟨_, h2, _, h3, _⟩
          · exact absurd h hne
          · exact ⟨FT.out h2, h3⟩)
      obtain ⟨m4, hm4⟩ : ∃ m, m = (Stu.pl (Stu.slp L)).length := ⟨_, rfl⟩
      rw [← hm4] at hv4
      subst hv4
      have HM4 := Lib.hid hm4
      have KALL := Lib.hid k1
      clear o4 k4 l4 hc4 hm4 P3 RW2 OF2 S2 SK SA LS BN
      go_wp2_with fail
      go_loopw [3, 4, 7] (fun u3 u4 u7 wr => ∃ (A1 A2 : Option Addr) (a b : List Int) (n1 n2 c1 c2 : Nat), u3 = .slice A1 n1 c1 ∧ u7 = .slice A2 n2 c2 ∧ a.length = n1 ∧ b.length = n2 ∧ Chd L w1 u4 A1 A2 a b c1 c2 wr) (fun _ _ u7 _ => lenOf u7)
      case atStart => exact ⟨A1, A4, Stu.pl L, Stu.pl (Stu.slp L), _, _, c1, c4, rfl, rfl, LP.out, HM4.out.symm, ST.out⟩
      case round =>
        clear ST
        obtain ⟨A1, A2, a, b, n1, n2, c1, c2, rfl, rfl, e1, e2, ch⟩ := hrel
        obtain ⟨wo, hwo⟩ : ∃ x, x = wr := ⟨_, rfl⟩
        subst hwo
        obtain ⟨D, j, hrows, hD, hj, hpch⟩ := ch.ex
        have HK1 := Lib.hid ch.kp
        have O1 := Lib.hid ch.o1
        have O2 := Lib.hid ch.o2
        have hl1 := ch.l1
        have hl2 := ch.l2
        by_cases h0 : n2 = 0
        · subst h0
          have hb0 : b = [] := List.eq_nil_of_length_eq_zero e2
          rw [if_pos hb0, List.append_nil] at hpch
          obtain ⟨A', c', rfl, hc', hm⟩ := hrows.lies
          have HM := Lib.hid hm
          have HP := Lib.hid hpch
          clear hrows hm ch hb0 hpch hj
          go_wp2_with fail
          go_ret
          exact ⟨A', c', by rw [← HP.out]; rfl, by rw [← HP.out]; exact hc', by rw [← HP.out]; exact HM.out, KALL.out.trans HK1.out⟩
        · have hb0 : b ≠ [] := fun e => h0 (by rw [← e2, e]; rfl)
          rw [if_neg hb0] at hpch
          obtain ⟨ff, tb⟩ := ch.fits hb0
          cases ff with
          | mk fit tt =>
            have hlt : (0 : Int) < (n2 : Int) := by omega
            have HRW := Lib.hid hrows
            have hlen : D.length + 1 ≤ 1000000 := by
              have := LEN.out.1
              rw [← hpch, List.length_append, List.length_cons] at this
              omega
            have HE2 := Lib.hid e2
            have hl2' : n2 ≤ c2 := by omega
            have HSZ := HK1.out.size
            obtain ⟨X, Y, hX, hY, ba, bb, fit2, cY, cX⟩ := fit.all hl1.2 (by omega)
            have RB := Stu.dr_bd hX hY ba bb (by omega) fit2
            obtain ⟨sl1, sl2, st, _⟩ := Stu.split_val a b hb0 tb (by omega)
            have SP := Lib.hid (fun (w' : World) (q1 : Lies w' A1 a) (q2 : Lies w' A2 b) => rSplit_any A1 A2 a b n1 n2 c1 c2 w' q1 q2 e1 e2 (by omega) (by omega) (by omega) (by omega) X Y hX hY ba bb tb (by rw [← e1, ← e2]; exact fit2) cY)
            obtain ⟨r, hr⟩ : ∃ r, r = Stu.dr a b := ⟨_, rfl⟩
            have NXT := Lib.hid (show ∃ j', (r.map (- ·)).length ≤ j' ∧ (D ++ [b]) ++ (if r.map (- ·) = [] then [] else r.map (- ·) :: Stu.tl j' b (r.map (- ·))) = Stu.rst L from by
              obtain ⟨j', rfl⟩ : ∃ j', j = j' + 1 := ⟨j - 1, by omega⟩
              refine ⟨j', by rw [List.length_map, hr]; omega, ?_⟩
              rw [← hpch, Stu.tl, List.append_assoc, hr]
              by_cases h : Stu.dr a b = []
              · rw [if_pos (by rw [h]; rfl), if_pos h]; rfl
              · rw [if_neg (by simpa using h), if_neg h]; rfl)
            have LR := Lib.hid (show r.length < n2 ∧ r.length ≤ 4 by rw [hr]; omega)
            have RBD := Lib.hid (fun k (hk : k < r.length) => bn_at (hr ▸ RB) (k := k) hk)
            have TT := Lib.hid (show r.map (- ·) ≠ [] → Stu.Fits b (r.map (- ·)) ∧ Stu.Tp (r.map (- ·)) from fun hne => by
              rw [hr] at hne ⊢
              exact ⟨tt (by simpa using hne), st.neg⟩)
            have L2 := Lib.hid (show b.length ≤ c2 ∧ b.length ≤ 4 from hl2)
            have HSP := Lib.hid (show ∀ (w' : World), Lies w' A1 a → Lies w' A2 b → Calls Tryd.prog 20 #[.slice A1 n1 c1, .slice A2 n2 c2] w' (fun e w'' => ∃ v1 v2, e = .returned (.tuple #[v1, v2]) ∧ Own w'' w'.heap.size v2 r ∧ Kp w' w'') from fun w' q1 q2 => (SP.out w' q1 q2).mono fun e w'' ⟨x1, x2, h1, h2, h3, h4⟩ => ⟨x1, x2, h1, by rw [hr]; exact h3, h4⟩)
            clear hrows ch hpch hj tb hb0 h0 e2 e1 hD hX hY ba bb fit2 cY cX RB sl1 sl2 st SP hr tt fit hl1 hl2
            go_wp2_with (at_builtin; refine wpList_pushR rfl _ _ rfl w1.heap.size _ D A2 b n2 c2 wo.heap.size 1 HE2.out hl2' rfl rfl (HRW.out.keep ((Kp.rfl' wo).new _)) (cell_made _ _ _ _ 0 rfl) (O2.out.keep ((Kp.rfl' wo).new _)) hlen (Nat.le_trans HSZ ((Kp.rfl' wo).new _).size) ?_; intro v' w' r1 r2 r3 r4; have R1 := Lib.hid r1; have K1' := Lib.hid (r4 w1 (Nat.le_refl _) (HK1.out.new _)); have Q1 := Lib.hid ((O1.out.keep ((Kp.rfl' wo).new _)).push r2 r3); have Q2 := Lib.hid ((O2.out.keep ((Kp.rfl' wo).new _)).push r2 r3); clear r1 r2 r3 r4)
            refine (HSP.out _ Q1.out.lies Q2.out.lies).mono ?_; rintro e w5 ⟨x1, x2, rfl, or, k5⟩
            obtain ⟨A5, c5, hv5, l5, hc5⟩ := or.cap
            obtain ⟨m5, hm5⟩ : ∃ m, m = r.length := ⟨_, rfl⟩
            rw [← hm5] at hv5 hc5
            subst hv5
            have HM5 := Lib.hid hm5
            have L5 := Lib.hid l5
            have K5 := Lib.hid k5
            have m54 : m5 ≤ 4 := by have := LR.out; omega
            clear or l5 k5 hm5 HSP
            go_wp2_with fail
            go_loopw [10, 11] (fun v i wr => ∃ k : Nat, k ≤ m5 ∧ i = .int .i64 (k : Int) ∧ Own wr w5.heap.size v ((r.map (- ·)).take k) ∧ Kp w5 wr) (fun _ i _ => m5 - (intOf i).toNat)
            case atStart => exact ⟨0, Nat.zero_le _, rfl, Own.none _ _, Kp.rfl' _⟩
            case round =>
              obtain ⟨k, hk, rfl, ho, hkq⟩ := hrel
              have HO := Lib.hid ho
              have HKQ := Lib.hid hkq
              clear ho hkq
              by_cases hkm : k < m5
              · obtain ⟨ad, rfl, _, y1⟩ := (L5.out.keep HKQ.out) k (by have := HM5.out; omega)
                have b1 := RBD.out k (by have := HM5.out; omega)
                have TK := Lib.hid (neg_take r (k := k) (by have := HM5.out; omega))
                have hlen2 : ((r.map (- ·)).take k).length + 1 ≤ 17000000000000 := by rw [List.length_take]; omega
                have HSZ2 := HKQ.out.size
                generalize r.getD k 0 = z at *
                have hwz : IntKind.i64.wrap (-z) = -z := IntWalk.i64_in _ (by omega)
                clear b1
                go_wp2_with (at_builtin; refine wpList_push rfl _ _ rfl w5.heap.size _ ((r.map (- ·)).take k) (-z) wr.heap.size 1 rfl rfl (HO.out.new _) (cell_made _ _ _ _ 0 rfl) hlen2 (Nat.le_trans HSZ2 ((Kp.rfl' _).new _).size) ?_; intro v6 w6 h1 h2 _; have HO' := Lib.hid h1; have HK' := Lib.hid (show Kp w5 w6 from own_below (HO.out.new _) (HKQ.out.new _) (Nat.le_trans HSZ2 ((Kp.rfl' _).new _).size) h2); clear h1 h2)
                go_roundw
                case rel => exact ⟨k + 1, by omega, by go_num, by rw [TK.out]; exact HO'.out, HK'.out⟩
                case measure => simp [intOf]; omega
              · obtain rfl : k = m5 := by omega
                have E := Lib.hid (show (r.map (- ·)).take k = r.map (- ·) from List.take_of_length_le (by rw [List.length_map, ← HM5.out]; exact Nat.le_refl _))
                rw [E.out] at HO
                obtain ⟨A6, c6, hv6, l6, hc6⟩ := HO.out.cap
                obtain ⟨gv, hgv, _, hgs⟩ := R1.out.own (by simp)
                have CH := Lib.hid (show Chd L w1 v' A2 A6 b (r.map (- ·)) c2 c6 wr from by
                  obtain ⟨j', hj', hp'⟩ := NXT.out
                  have kk := K5.out.trans HKQ.out
                  exact ⟨⟨D ++ [b], j', R1.out.keep kk, by simp, hj', hp'⟩, Q2.out.keep kk, Off.own HO.out hv6 hgv (by have := K5.out.size; omega), L2.out, ⟨hc6, by rw [List.length_map]; exact LR.out.2⟩, TT.out, K1'.out.trans kk⟩)
                have LM := Lib.hid (show (r.map (- ·)).length = k by rw [List.length_map]; exact HM5.out.symm)
                rw [LM.out] at hv6
                subst hv6
                have hkn : k < n2 := by have := LR.out; have := HM5.out; omega
                clear HO l6 hc6 hgv hgs hkm
                go_wp2_with fail
                go_roundw
                case rel => exact ⟨A2, A6, b, r.map (- ·), _, _, c2, c6, rfl, rfl, HE2.out, LM.out, CH.out⟩
                case measure => simp [lenOf]; exact hkn

end Go.Proofs.YtbdpcpodmmhjaaaDoor
