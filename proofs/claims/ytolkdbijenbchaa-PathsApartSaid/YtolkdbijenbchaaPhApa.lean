/- The law PathsApart. -/
import Derived.Test.YtolkdbijenbchaaPhFact
import Derived.Test.YtolkdbijenbchaaZDetB
import Derived.Test.YtolkdbijenbchaaOwnM
import Derived.StillTailTactics
namespace Go.Proofs.Ytolkdbijenbchaa
open Go.ChangeShapes Go.WideShapes Go.ChangeAt Go.RowKit
set_option linter.unusedVariables false

/-- How many ways there are from each to each. -/
def phm (wd : Nat) (x y : List Nat) : Nat → Nat → Int := fun i j => Zx.way wd (x.getD i 0) (y.getD j 0)
theorem ap_dt {wd : Nat} {x y : List Nat} {l m : List Int} (s : Ph wd x y l m) : Zx.ap wd x y = Zx.dt x.length (phm wd x y) := by
  have h1 := s.a1
  have h3 := s.a3
  have hl := s.len
  have rx := s.ra
  have ry := s.rb
  have ly := Zx.ris_le ry
  clear s
  match x, y, h1, h3, hl, rx, ry with
  | [a], [t], _, _, _, rx, ry => exact Zx.ap1 wd (ly 0)
  | [a, b], [t, u], _, _, _, rx, ry => exact Zx.ap2 wd rx.1 rx.2 ry.1 ry.2
  | [a, b, c], [t, u, v], _, _, _, rx, ry => exact Zx.ap3 wd rx.1 rx.2.1 rx.2.2 ry.1 ry.2.1 ry.2.2
  | _ :: _ :: _ :: _ :: _, _, _, h3, _, _, _ => exact absurd h3 (by simp)
theorem phm_le {wd : Nat} {x y : List Nat} {l m : List Int} (s : Ph wd x y l m) (i j : Nat) : 0 ≤ phm wd x y i j ∧ phm wd x y i j ≤ 210 := by
  have ly := Zx.ris_le s.rb j
  have w4 := s.w4
  unfold phm
  rcases Nat.lt_or_ge (y.getD j 0) (x.getD i 0) with h | h
  · rw [Zx.way_out wd h]; omega
  · rw [Zx.way_is wd (y.getD j 0 - x.getD i 0) ly (by omega)]
    have := Zx.wy_most wd (by omega) (y.getD j 0 - x.getD i 0) (by omega)
    omega

set_option maxRecDepth 100000 in
set_option maxHeartbeats 6400000 in
theorem apart_main (wd : Nat) (x y : List Nat) (l m : List Int) (s : Ph wd x y l m) (A B : Option Addr) (n c d : Nat) (w : World) (ha : Lies w A l) (hb : Lies w B m) (hn : l.length = n) (hq : m.length = n) :
    Calls Try.prog 3 #[.int .i64 (wd : Int), .slice A n c, .slice B n d] w fun e w' => e = .returned (.bool true) ∧ Kp w w' := by
  have FA := Lib.hid (fun w => pathsFact_any w)
  have AP := Lib.hid (fun w ha hb => Apart_ok wd x y l m s A B n n c d w ha hb hn hq)
  have lx : x.length = n := by rw [← hn, s.la, nz_len]
  have ly : y.length = n := by rw [← hq, s.lb, nz_len]
  have e := ap_dt s
  rw [lx] at e
  rw [e] at AP
  have n1 : 1 ≤ n := by rw [← lx]; exact s.a1
  have n3 : n ≤ 3 := by rw [← lx]; exact s.a3
  have LE := Lib.hid (phm_le s)
  have HA := Lib.hid ha
  have HB := Lib.hid hb
  have XL := Lib.hid (fun (w' : World) (k : Kp w w') (i : Nat) (hi : i < n) => Lies.num (l := x) (by rw [← s.la]; exact ha.keep k) (show i < x.length by rw [lx]; exact hi))
  have YL := Lib.hid (fun (w' : World) (k : Kp w w') (i : Nat) (hi : i < n) => Lies.num (l := y) (by rw [← s.lb]; exact hb.keep k) (show i < y.length by rw [ly]; exact hi))
  have XB := Lib.hid (Zx.ris_le s.ra)
  have YB := Lib.hid (Zx.ris_le s.rb)
  have PF := Lib.hid (show ∀ i j, phm wd x y i j = Zx.way wd (x.getD i 0) (y.getD j 0) from fun i j => rfl)
  have OUT := Lib.hid (fun (a t : Nat) (h : t < a) => Zx.way_out wd h)
  have INN := Lib.hid (fun (k a t : Nat) (h7 : t < 7) (h : t = a + k) => Zx.way_is wd k h7 h)
  have WB := Lib.hid (fun (k : Nat) (h : k < 7) => Zx.wy_most wd (by have := s.w4; omega) k h)
  have PW := Lib.hid (fun (k : Nat) (h : k ≤ 6) (w' : World) => PWay_ok wd k w' s.w4 h)
  generalize phm wd x y = f at *
  have DT := Lib.hid (fun (A' : Option Addr) (d' : Nat) (w' : World) (h : LiesM w' A' (Mx.tab n n f)) => rDetB_any n (by omega) 300 (by decide) (by
      rcases (show n = 1 ∨ n = 2 ∨ n = 3 by omega) with rfl | rfl | rfl <;> decide) A' f d' w' (fun i j _ _ => by have := LE.out i j; show ((f i j).natAbs : Int) ≤ 300; omega) h)
  have DB := Lib.hid (show 0 ≤ Zx.dt n f from by rw [← e]; exact Zx.ap_nn _ _ _)
  obtain ⟨z, hz⟩ : ∃ z, z = Zx.dt n f := ⟨_, rfl⟩
  rw [← hz] at AP DT DB
  have ez : (z == z) = true := by simp
  have ez0 : 0 ≤ z := DB.out
  clear s ha hb hn hq lx ly e hz
  go_enter Try.func3, Try.ntmps3
  go_wp2_with fail
  refine (FA.out _).mono ?_; rintro e w1 ⟨rfl, k1⟩
  have K1 := Lib.hid k1
  clear k1
  go_wp2_with fail
  refine (AP.out _ (HA.out.keep K1.out) (HB.out.keep K1.out)).mono ?_; rintro e w2 ⟨rfl, k2⟩
  have K2 := Lib.hid (K1.out.trans k2)
  clear k2 K1 FA AP
  go_wp2_with fail
  go_loopw [10, 11] (fun v i wr => ∃ (k : Nat) (G C : Nat → Nat), k ≤ n ∧ i = .int .i64 (k : Int) ∧ OwnM wr w2.heap.size v G C (Mx.tab k n f) ∧ Kp w2 wr) (fun _ i _ => n - (intOf i).toNat)
  case atStart => exact ⟨0, fun _ => 0, fun _ => 0, Nat.zero_le _, rfl, ownM_none _ _ _ _, Kp.rfl' _⟩
  case round =>
    obtain ⟨k, G, C, hk, rfl, ho, hkp⟩ := hrel
    obtain ⟨wo, hwo⟩ : ∃ x, x = wr := ⟨_, rfl⟩
    subst hwo
    have HO := Lib.hid ho
    have HK := Lib.hid hkp
    clear ho hkp
    by_cases hlt : k < n
    · have HS := Lib.hid (show Mx.tab (k + 1) n f = Mx.tab k n f ++ [Mx.row n (f k)] by rw [Mx.tab_snoc])
      go_wp2_with fail
      go_loopw [12, 13] (fun u i wq => ∃ t : Nat, t ≤ n ∧ i = .int .i64 (t : Int) ∧ Own wq wo.heap.size u (Mx.row t (f k)) ∧ Kp wo wq) (fun _ i _ => n - (intOf i).toNat)
      case atStart => exact ⟨0, Nat.zero_le _, rfl, Own.none _ _, Kp.rfl' _⟩
      case round =>
        obtain ⟨t, ht, rfl, hu, hkq⟩ := hrel
        have HU := Lib.hid hu
        have HQ := Lib.hid hkq
        by_cases hlt2 : t < n
        · have K5 := Lib.hid ((K2.out.trans HK.out).trans hkq)
          obtain ⟨ad, rfl, _, x1⟩ := XL.out wr K5.out k hlt
          obtain ⟨bd, rfl, _, x2⟩ := YL.out wr K5.out t hlt2
          clear hu hkq
          have hlen : (Mx.row t (f k)).length + 1 ≤ 17000000000000 := by rw [Mx.len_row]; omega
          have hsz := HQ.out.size
          have HSN := Lib.hid (Mx.row_snoc t (f k))
          have pf := PF.out k t
          have xb := XB.out k
          have yb := YB.out t
          obtain ⟨a, ha⟩ : ∃ a, a = x.getD k 0 := ⟨_, rfl⟩
          obtain ⟨b, hb⟩ : ∃ b, b = y.getD t 0 := ⟨_, rfl⟩
          rw [← ha, ← hb] at pf
          rw [← ha] at x1 xb
          rw [← hb] at x2 yb
          clear ha hb
          by_cases hab : a ≤ b
          · obtain ⟨q, hq⟩ : ∃ q, b = a + q := ⟨b - a, by omega⟩
            rw [INN.out q a b yb hq] at pf
            have wb := WB.out q (by omega)
            have PW1 := Lib.hid (PW.out q (by omega))
            rw [pf] at HSN
            generalize Zx.wy wd q = p at *
            have IN := Lib.hid (fun w' => law4In_any p 1 300 w' true (by rw [decide_eq_true (by omega), decide_eq_true (by omega)]; rfl))
            have e1 : (b : Int) - (a : Int) = (q : Int) := by omega
            have e2 : IntKind.i64.wrap (q : Int) = (q : Int) := IntWalk.i64_in _ (by omega)
            have e3 : (a : Int) ≤ (b : Int) := by omega
            clear pf hq hab xb yb wb
            go_wp2_with fail
            go_quiet (fail)
            go_wp2_with fail
            go_region_law (first
              | (go_simp; go_at_call 8; refine (PW1.out _).mono ?_; rintro e w5 ⟨rfl, k5⟩; have U6 := Lib.hid ((HU.out.drewN _).kp k5); have K6 := Lib.hid ((HQ.out.drewN _).trans k5); clear k5))
            all_goals
              go_wp2_with fail
              refine (IN.out _).mono ?_; rintro e w6 ⟨rfl, rfl⟩
              go_wp2_with (at_builtin; refine wpList_push rfl _ _ rfl wo.heap.size _ (Mx.row t (f k)) p w5.heap.size 1 rfl rfl (U6.out.new _) (by simp; done) hlen (Nat.le_trans K6.out.size ((Kp.rfl' _).new _).size) ?_; intro v' w' h1 h2 _)
              have HU' := Lib.hid h1
              have HQ' := Lib.hid (own_below (U6.out.new _) (K6.out.new _) (by have := K6.out.size; simp; omega) h2)
              clear h1 h2
              go_wp2_with fail
              go_roundw
              case rel => exact ⟨t + 1, by omega, by go_num, by rw [HSN.out]; exact HU'.out, HQ'.out⟩
              case measure => simp [intOf]; omega
          · rw [OUT.out a b (by omega)] at pf
            rw [pf] at HSN
            have e3 : (b : Int) < (a : Int) := by omega
            clear pf hab xb yb
            go_wp2_with fail
            go_quiet (fail)
            obtain ⟨wd1, hwd1⟩ : ∃ x, x = wr.drewN nq := ⟨_, rfl⟩
            have U6 := Lib.hid (HU.out.drewN nq)
            have K6 := Lib.hid (HQ.out.drewN nq)
            rw [← hwd1] at U6 K6 ⊢
            clear hwd1
            go_wp2_with (at_builtin; refine wpList_push rfl _ _ rfl wo.heap.size _ (Mx.row t (f k)) 0 wd1.heap.size 1 rfl rfl (U6.out.new _) (by simp; done) hlen (Nat.le_trans K6.out.size ((Kp.rfl' _).new _).size) ?_; intro v' w' h1 h2 _)
            have HU' := Lib.hid h1
            have HQ' := Lib.hid (own_below (U6.out.new _) (K6.out.new _) (by have := K6.out.size; simp; omega) h2)
            clear h1 h2
            go_wp2_with fail
            go_roundw
            case rel => exact ⟨t + 1, by omega, by go_num, by rw [HSN.out]; exact HU'.out, HQ'.out⟩
            case measure => simp [intOf]; omega
        · obtain rfl : t = n := by omega
          obtain ⟨g, gc, rfl, hg, hgc⟩ := own_some hu (by rw [Mx.len_row]; omega)
          rw [Mx.len_row] at HU hgc ⊢
          clear hu hkq
          have OM := Lib.hid (HO.out.kp HQ.out)
          have HAP := Lib.hid (show ∀ i, i < (Mx.tab k t f).length → G i ≠ g from fun i hi => by have := (HO.out.lt hi).2; omega)
          go_wp2_with (at_builtin; refine wpList_pushM rfl _ _ rfl w2.heap.size _ G C (Mx.tab k t f) _ g t gc _ 1 (Mx.len_row _ _) rfl rfl (OM.out.new _) (by simp; done) ((HU.out.from HK.out.size).new _) HAP.out (by rw [Mx.len_tab]; omega) (Nat.le_trans HK.out.size (Nat.le_trans HQ.out.size ((Kp.rfl' _).new _).size)) ?_; intro v' w' G' C' ho' hk')
          have HO' := Lib.hid ho'
          have HK' := Lib.hid (hk' w2 (Nat.le_refl _) ((HK.out.trans HQ.out).new _))
          clear ho' hk'
          go_wp2_with fail
          go_roundw
          case rel => exact ⟨k + 1, G', C', by omega, by go_num, by rw [HS.out]; exact HO'.out, HK'.out⟩
          case measure => simp [intOf]; omega
    · obtain rfl : k = n := by omega
      obtain ⟨A', d', rfl, hl, _⟩ := HO.out.lies
      have D5 := Lib.hid (DT.out A' d' _ hl)
      rw [Mx.len_tab]
      clear hl
      go_wp2_with fail
      refine (D5.out).mono ?_; rintro e w5 ⟨rfl, k5⟩
      have K6 := Lib.hid ((K2.out.trans HK.out).trans k5)
      clear k5
      go_wp2_with fail
      go_ret
      exact ⟨rfl, K6.out⟩
theorem walk_PathsApart (wd : Int) (A : Option Addr) (l : List Int) (c : Nat) (B : Option Addr) (m : List Int) (d : Nat) (w : World) (ha : Lies w A l) (hb : Lies w B m) :
    Calls Try.prog 3 #[.int .i64 wd, .slice A l.length c, .slice B m.length d] w fun e w' => e = .returned (.bool true) ∧ Kp w w' := by
  rcases ph_or wd l m with ⟨k, x, y, rfl, s⟩ | h
  · have eq : m.length = l.length := by rw [s.la, s.lb, nz_len, nz_len, s.len]
    rw [eq]
    exact apart_main k x y l m s A B l.length c d w ha hb rfl eq
  · have FA := Lib.hid (fun w => pathsFact_any w)
    have AP := Lib.hid (fun w ha hb => Apart_no wd A B l m l.length m.length c d w ha hb rfl rfl h)
    rw [errOf_ne _ h] at AP
    have HA := Lib.hid ha
    have HB := Lib.hid hb
    generalize phcd wd l m = z at *
    generalize l.length = n at *
    generalize m.length = q at *
    clear ha hb h
    go_enter Try.func3, Try.ntmps3
    go_wp2_with fail
    refine (FA.out _).mono ?_; rintro e w1 ⟨rfl, k1⟩
    have K1 := Lib.hid k1
    clear k1
    go_wp2_with fail
    refine (AP.out _ (HA.out.keep K1.out) (HB.out.keep K1.out)).mono ?_; rintro e w2 ⟨rfl, rfl⟩
    go_wp2_with fail
    go_ret
    exact ⟨rfl, K1.out⟩

end Go.Proofs.Ytolkdbijenbchaa
