/- Contracts of package hermite, third part: the rows from one on are made 0 in a column, but for the first of them. -/
import Derived.Test.YtlnehhhlpdaebaaHmC2
import Derived.Deep.LoopGhost
import Derived.Deep.RegionHeld3
namespace Go.Proofs.Ytlnehhhlpdaebaa
open Go.ChangeShapes Go.WideShapes Go.ChangeAt Go.RowKit
set_option linter.unusedVariables false

theorem neg_mat {B g cap n : Nat} {G C : Nat → Nat} {f : Nat → Nat → Int} {a : Nat} (w : World) (h : OwnM w B (.slice (some ⟨g, 0, none⟩) n cap) G C (Mx.tab n n f)) (ha : a < n) (hn : n ≤ 3) (hy : ∀ j, j < n → Zx.ab (f a j) ≤ 1000000000000000) :
    Calls Try.prog 54 #[.slice (some ⟨G a, 0, none⟩) n (C a)] w fun e w' =>
      e = .returned (.tuple #[]) ∧ OwnM w' B (.slice (some ⟨g, 0, none⟩) n cap) G C (Mx.tab n n (Zx.setr a (fun j => -(f a j)) f)) ∧ But (G a) w w' :=
  (neg_any (G a) (C a) n B (f a) w (h.weak.row a ha) (by omega) fun j hj => by have := hy j hj; unfold Zx.ab at this; omega).mono fun _ _ hq => ⟨hq.1, h.turned1 ha hq.2.2 hq.2.1, hq.2.2⟩
theorem red_mat {B g cap n : Nat} {G C : Nat → Nat} {f : Nat → Nat → Int} {a i k P R : Nat} (w : World) (h : OwnM w B (.slice (some ⟨g, 0, none⟩) n cap) G C (Mx.tab n n f)) (ha : a < n) (hi : i < n) (hne : a ≠ i) (hk : k < n) (hn : n ≤ 3)
    (hP : w.cell? ⟨P, 0, none⟩ = some (.int .i64 (k : Int))) (hR : w.cell? ⟨R, 0, none⟩ = some (.slice (some ⟨G i, 0, none⟩) n (C i))) (nP : P ≠ G a) (nR : R ≠ G a) (h0 : 0 < f i k) (hb : f i k ≤ 1000000000000000)
    (hy : ∀ j, j < n → Zx.ab (f a j) ≤ 1000000000000000 ∧ Zx.ab (f a k / f i k * f i j) ≤ 1000000000000000) :
    Calls Try.prog 50 #[.slice (some ⟨G a, 0, none⟩) n (C a), .pointer (some ⟨P, 0, none⟩), .pointer (some ⟨R, 0, none⟩)] w fun e w' =>
      e = .returned (.tuple #[]) ∧ OwnM w' B (.slice (some ⟨g, 0, none⟩) n cap) G C (Mx.tab n n (Zx.setr a (Zx.rdc k (f i) (f a)) f)) ∧ But (G a) w w' :=
  (red_any P R (G i) n (C i) k (G a) (C a) B (f i) (f a) w ⟨hP, hR, fun j hj => h.weak.el hi hj⟩ (h.weak.row a ha) nP nR
    (fun e => h.apart i a (by rw [Mx.len_tab]; exact hi) (by rw [Mx.len_tab]; exact ha) (fun e' => hne e'.symm) e) hk (by omega) h0 hb fun j hj => by have := hy j hj; unfold Zx.ab at this; omega).mono fun _ _ hq => ⟨hq.1, h.turned1 ha hq.2.2 hq.2.1, hq.2.2⟩
theorem But.below {z B : Nat} {w w' : World} (h : But z w w') (hz : B ≤ z) (hB : B ≤ w.heap.size) : Below B w w' :=
  Only.below h (Below.refl _ _) hB fun _ _ => hz
theorem OwnM.swap {w : World} {B g cap : Nat} {G C : Nat → Nat} {r c : Nat} {f : Nat → Nat → Int} (h : OwnM w B (.slice (some ⟨g, 0, none⟩) r cap) G C (Mx.tab r c f)) {a b : Nat} (ha : a < r) (hb : b < r) :
    OwnM ((w.setCell ⟨g, a, none⟩ (.slice (some ⟨G b, 0, none⟩) c (C b))).setCell ⟨g, b, none⟩ (.slice (some ⟨G a, 0, none⟩) c (C a))) B (.slice (some ⟨g, 0, none⟩) r cap)
      (fun i => if i = b then G a else if i = a then G b else G i) (fun i => if i = b then C a else if i = a then C b else C i) (Mx.tab r c fun i => if i = b then f a else if i = a then f b else f i) :=
  ((MatRow.start h).swap ha hb).mat
theorem below_trans {B : Nat} {a b c : World} (h : Below B a b) (k : Below B b c) : Below B a c := h.trans k

set_option maxRecDepth 100000 in
set_option maxHeartbeats 3200000 in
theorem gather_any {B g cap n k p : Nat} {G C : Nat → Nat} {f0 : Nat → Nat → Int} (w : World) (hp : k + p = n) (h1 : 0 < p) (hn : n ≤ 3) (hB : B ≤ w.heap.size) (h : OwnM w B (.slice (some ⟨g, 0, none⟩) n cap) G C (Mx.tab n n f0))
    (hl : ∀ r j, k ≤ r → r < n → j < k → f0 r j = 0) (hb : ∀ r j, k ≤ r → r < n → j < n → Zx.ab (f0 r j) ≤ Zx.lbd k) (c : Nat) :
    Calls Try.prog 47 #[.slice (some ⟨g, k, none⟩) p c, .int .i64 (k : Int)] w fun e w' =>
      ∃ G C f, e = .returned (.tuple #[]) ∧ OwnM w' B (.slice (some ⟨g, 0, none⟩) n cap) G C (Mx.tab n n f) ∧ Zx.Gat n k n (Zx.lbd k) f0 f ∧ Below B w w' := by
  have HO := Lib.hid h
  have HP := Lib.hid hp
  have HL := Lib.hid hl
  have HB := Lib.hid hb
  have hkn : k < n := by omega
  have LB := Lib.hid (Zx.lbd_one k)
  have LE := Lib.hid (Zx.lbd_le k)
  have hBg := h.weak.topLe.1
  clear h hp hl hb
  go_enter Try.func47, Try.ntmps47
  go_wp2_with fail
  go_loopw [5, 9] (fun _ i wr => ∃ (t : Nat) (f : Nat → Nat → Int), t ≤ p ∧ i = .int .i64 (t : Int) ∧ OwnM wr B (.slice (some ⟨g, 0, none⟩) n cap) G C (Mx.tab n n f) ∧ Zx.Ngs n k t f0 f ∧ Below B w wr) (fun _ i _ => p - (intOf i).toNat)
  case atStart => exact ⟨0, f0, Nat.zero_le _, rfl, HO.out, Zx.Ngs.start n k f0, Below.refl _ _⟩
  case round =>
    obtain ⟨t, f, ht, rfl, ho, hs, hw⟩ := hrel
    have HM := Lib.hid ho
    have HS := Lib.hid hs
    have HW := Lib.hid hw
    clear ho hs hw
    by_cases hlt : t < p
    · have hkt : k + t < n := by have := HP.out; omega
      have x1 := HM.out.weak.head hkt
      have x2 := HM.out.weak.el hkt hkn
      by_cases hneg : f (k + t) k < 0
      · have NG := Lib.hid (neg_mat wr HM.out hkt hn fun j hj => by
          rw [HS.out.ab]
          have a1 := HB.out (k + t) j (by omega) hkt hj
          have a2 := LE.out; omega)
        have HS2 := Lib.hid (HS.out.turn hkt hneg)
        have hz : B ≤ G (k + t) := (HM.out.weak.lt hkt).1
        have hd : decide (f (k + t) k < 0) = true := decide_eq_true hneg
        have hwb : B ≤ wr.heap.size := Nat.le_trans hB HW.out.size
        clear hneg
        generalize f (k + t) k = x at *
        go_wp2_with fail
        refine (NG.out).mono ?_; rintro e w2 ⟨rfl, ho2, hb2⟩
        have HM2 := Lib.hid ho2
        have HW2 := Lib.hid (below_trans HW.out (hb2.below hz hwb))
        clear ho2 hb2
        go_wp2_with fail
        go_roundw
        case rel => exact ⟨t + 1, _, by omega, by go_num, HM2.out, HS2.out, HW2.out⟩
        case measure => simp [intOf]; omega
      · have HS2 := Lib.hid (HS.out.keep (by omega))
        have hd : decide (f (k + t) k < 0) = false := decide_eq_false hneg
        clear hneg
        generalize f (k + t) k = x at *
        go_wp2_with fail
        go_roundw
        case rel => exact ⟨t + 1, f, by omega, by go_num, HM.out, HS2.out, HW.out⟩
        case measure => simp [intOf]; omega
    · have GS := Lib.hid (show Zx.Gat n k (k + 1) (Zx.lbd k) f0 f from Zx.Gat.start hkn (by
        have e : n - k = t := by
          have := HP.out
          omega
        rw [e]; exact HS.out) HL.out HB.out)
      have e0 : decide (t < p) = false := decide_eq_false hlt
      clear ht hlt
      go_wp2_with fail
      go_loopw [6] (fun i wq => ∃ (i' : Nat) (G C : Nat → Nat) (f : Nat → Nat → Int), 1 ≤ i' ∧ i' ≤ p ∧ i = .int .i64 (i' : Int) ∧ OwnM wq B (.slice (some ⟨g, 0, none⟩) n cap) G C (Mx.tab n n f) ∧ Zx.Gat n k (k + i') (Zx.lbd k) f0 f ∧ Below B w wq) (fun i _ => p - (intOf i).toNat)
      case atStart => exact ⟨1, G, C, f, Nat.le_refl _, h1, rfl, HM.out, GS.out, HW.out⟩
      case round =>
        clear GS HM HS HW
        obtain ⟨i, G, C, f, hi1, hi2, rfl, ho, hs, hw⟩ := hrel
        have HM := Lib.hid ho
        have HS := Lib.hid hs
        have HW := Lib.hid hw
        clear ho hs hw
        by_cases hlt : i < p
        · have hki : k + i < n := by have := HP.out; omega
          have hkk : k < k + i := by omega
          have GC := Lib.hid (show (0 ≤ f k k ∧ f k k ≤ Zx.lbd k) ∧ (0 ≤ f (k + i) k ∧ f (k + i) k ≤ Zx.lbd k) from ⟨⟨HS.out.nn k (Nat.le_refl k) hkn, HS.out.cl k (Nat.le_refl k) hkn⟩, ⟨HS.out.nn _ (by omega) hki, HS.out.cl _ (by omega) hki⟩⟩)
          go_wp2_with fail
          go_loopg [33] (f (k + i) k).toNat (fun q _ wr => ∃ (G C : Nat → Nat) (h : Nat → Nat → Int), OwnM wr B (.slice (some ⟨g, 0, none⟩) n cap) G C (Mx.tab n n h) ∧ Zx.Prs n k (k + i) (Zx.lbd k) f h ∧ Below B w wr ∧ (h (k + i) k).toNat = q)
          case atStart => exact ⟨G, C, f, HM.out, Zx.Prs.start LB.out GC.out.1.1 GC.out.1.2 GC.out.2.1 GC.out.2.2, HW.out, rfl⟩
          case round =>
            clear HM HW
            obtain ⟨G, C, h, ho, hs, hw, hq⟩ := hrel
            have HM := Lib.hid ho
            have HR := Lib.hid hs
            have HW := Lib.hid hw
            have HQ := Lib.hid hq
            clear ho hs hw hq
            have y1 := HM.out.weak.head hki
            have y2 := HM.out.weak.el hki hkn
            have y0 := HM.out.weak.head hkn
            by_cases h0 : h (k + i) k = 0
            · have HS2 := Lib.hid (show Zx.Gat n k (k + (i + 1)) (Zx.lbd k) f0 h from HS.out.next LB.out hkk hki HR.out h0)
              rw [h0] at y2
              clear h0
              go_wp2_with fail
              go_roundw
              case rel => exact ⟨i + 1, G, C, h, by omega, by omega, by go_num, HM.out, HS2.out, HW.out⟩
              case measure => simp [intOf]; omega
            · have hne : k ≠ k + i := by omega
              have hst := HR.out.step hkn hki hne GC.out.1.1 GC.out.1.2 GC.out.2.1 GC.out.2.2 h0
              have hx0 := HR.out.ni
              have hpos : 0 < h (k + i) k := by omega
              obtain ⟨U0, V0, U1, V1, cf⟩ := HR.out.cof
              have hxl : h (k + i) k ≤ 1000000000000000 := by
                have a1 := cf.cy
                have a2 := LE.out
                rw [Zx.ab_of hx0] at a1
                omega
              have bnd : ∀ j, j < n → Zx.ab (h k j) ≤ 1000000000000000 ∧ Zx.ab (h k k / h (k + i) k * h (k + i) j) ≤ 1000000000000000 := fun j hj => by
                have a1 := hst.2.2 j hj
                have a2 := HS.out.bound hn hkn hkk hki (fun t ht => Int.le_trans (Zx.bt_lbd hn hkn ht) (Zx.lbd_le _)) hj (by have := LB.out; omega)
                omega
              have kd : Kp wr wr.drew := (Kp.rfl' wr).drewN 1
              have hGk := HM.out.weak.lt hkn
              have hsz : wr.drew.heap.size = wr.heap.size := rfl
              have RD := Lib.hid (reduc_any (some ⟨G (k + i), 0, none⟩) n (C (k + i)) k wr.drew)
              have ST := Lib.hid (fun (w1 : World) (P R : Nat) (hk1 : Kp wr.drew w1) (hPR : wr.drew.heap.size ≤ P ∧ wr.drew.heap.size ≤ R) c1 c2 =>
                red_mat w1 (HM.out.kp (kd.trans hk1)) hkn hki hne hkn hn c1 c2 (P := P) (R := R) (fun e => by have a := hPR.1; have b := hGk.2; omega) (fun e => by have a := hPR.2; have b := hGk.2; omega) hpos hxl bnd)
              have HX := Lib.hid hst
              have SK := Lib.hid (fun (w' : World) (h : Kp wr w') => (show w'.cell? ⟨g, k, none⟩ = some (.slice (some ⟨G k, 0, none⟩) n (C k)) ∧ w'.cell? ⟨g, k + i, none⟩ = some (.slice (some ⟨G (k + i), 0, none⟩) n (C (k + i))) from
                ⟨(h.cell (cell_lt y0)).trans y0, (h.cell (cell_lt y1)).trans y1⟩))
              have SB := Lib.hid (fun (w1 w' : World) (h : Kp wr w1) (hb : But (G k) w1 w') => (show w'.cell? ⟨g, k, none⟩ = some (.slice (some ⟨G k, 0, none⟩) n (C k)) ∧ w'.cell? ⟨g, k + i, none⟩ = some (.slice (some ⟨G (k + i), 0, none⟩) n (C (k + i))) from
                ⟨hb.cell ((h.cell (cell_lt y0)).trans y0) fun _ _ => (HM.out.weak.apartTop hkn).symm, hb.cell ((h.cell (cell_lt y1)).trans y1) fun _ _ => (HM.out.weak.apartTop hkn).symm⟩))
              have HG := Lib.hid hGk
              have hwb : B ≤ wr.heap.size := Nat.le_trans hB HW.out.size
              have e1 : ((h (k + i) k) != 0) = true := by rw [bne_iff_ne]; exact h0
              have HF := Lib.hid (show ∀ r j, (if r = k + i then Zx.setr k (Zx.rdc k (h (k + i)) (h k)) h k else if r = k then Zx.setr k (Zx.rdc k (h (k + i)) (h k)) h (k + i) else Zx.setr k (Zx.rdc k (h (k + i)) (h k)) h r) j = Zx.prs k (k + i) h r j from fun r j => by
                rw [Zx.setr_at, Zx.setr_ne (fun e => hne e.symm)]
                unfold Zx.prs
                by_cases r1 : r = k + i
                · rw [if_pos r1, if_pos r1]
                · rw [if_neg r1, if_neg r1]
                  by_cases r2 : r = k
                  · rw [if_pos r2, if_pos r2]
                  · rw [if_neg r2, if_neg r2, Zx.setr_ne r2])
              clear hst hpos hxl bnd cf hx0 hGk h0 hsz
              generalize h (k + i) k = x at y2 e1
              go_wp2_with fail
              go_region_held3 (fun w' => w'.cell? ⟨g, k, none⟩ = some (.slice (some ⟨G k, 0, none⟩) n (C k)) ∧ w'.cell? ⟨g, k + i, none⟩ = some (.slice (some ⟨G (k + i), 0, none⟩) n (C (k + i))))
                (first
                | exact SK.out _ (Kp.rfl' _)
                | exact SK.out _ kd
                | exact SK.out _ (kd.trans k1)
                | exact SB.out _ _ (kd.trans k1) hb2)
                ((first
                | (go_at_call 38; (with_reducible refine (RD.out).mono ?_); rintro e w1 ⟨P, R, rfl, hPR, c1, c2, k1⟩)
                | (go_at_call 50; (with_reducible refine (ST.out w1 P R k1 hPR c1 c2).mono ?_); rintro e w2 ⟨rfl, ho2, hb2⟩)))
              have kk := kd.trans k1
              have hz : B ≤ G k := HG.out.1
              have HW2 := Lib.hid (below_trans HW.out (below_trans (kk.mono hwb) (hb2.below hz (Nat.le_trans hwb kk.size))))
              have HM2 := Lib.hid ho2
              clear ho2 hb2 k1 c1 c2 hPR kk kd y0 y1 y2 SK SB
              have z1 := HM2.out.weak.head hki
              have z2 := HM2.out.weak.head hkn
              have z3 := HM2.out.weak.topFree (k + i)
              have z4 := HM2.out.weak.topFree k
              have z5 : (w2.setCell ⟨g, k, none⟩ (.slice (some ⟨G (k + i), 0, none⟩) n (C (k + i)))).cell? ⟨g, k + i, none⟩ = some (.slice (some ⟨G (k + i), 0, none⟩) n (C (k + i))) := by
                have hne' : (⟨g, k, none⟩ : Addr) ≠ ⟨g, k + i, none⟩ := fun e' => hne (by injection e')
                rw [World.cell?_setCell_other (w := w2) (v := .slice (some ⟨G (k + i), 0, none⟩) n (C (k + i))) (h := hne')]; exact z1
              have z6 : (w2.setCell ⟨g, k, none⟩ (.slice (some ⟨G (k + i), 0, none⟩) n (C (k + i)))).frozen? ⟨g, k + i, none⟩ = false := (HM2.out.weak.set hkn (HM2.out.weak.row _ hki)).topFree (k + i)
              obtain ⟨G', hG'⟩ : ∃ G' : Nat → Nat, G' = fun r => if r = k + i then G k else if r = k then G (k + i) else G r := ⟨_, rfl⟩
              obtain ⟨C', hC'⟩ : ∃ C' : Nat → Nat, C' = fun r => if r = k + i then C k else if r = k then C (k + i) else C r := ⟨_, rfl⟩
              have SW := HM2.out.swap hkn hki
              rw [← hG', ← hC'] at SW
              have SW := Lib.hid (SW.ext (f' := Zx.prs k (k + i) h) fun r j _ _ => HF.out r j)
              have HW3 := Lib.hid (below_drewN' (Below.setCell (Below.setCell HW2.out (p := ⟨g, k, none⟩) hBg (.slice (some ⟨G (k + i), 0, none⟩) n (C (k + i)))) (p := ⟨g, k + i, none⟩) hBg (.slice (some ⟨G k, 0, none⟩) n (C k))) 1)
              have HQ2 := Lib.hid (show (Zx.prs k (k + i) h (k + i) k).toNat < (h (k + i) k).toNat by
                have a1 := HX.out.1.ni
                have a2 := HX.out.2.1
                omega)
              clear hG' hC' HF hne
              go_wp2_with fail
              go_region_law (fail)
              all_goals
                go_wp2_with fail
                go_roundg (Zx.prs k (k + i) h (k + i) k).toNat
                case measure => rw [← HQ.out]; exact HQ2.out
                case rel => exact ⟨G', C', Zx.prs k (k + i) h, SW.out.kp ((Kp.rfl' _).drewN 1), HX.out.1, HW3.out, rfl⟩
        · obtain rfl : i = p := by omega
          have HS2 := Lib.hid (show Zx.Gat n k n (Zx.lbd k) f0 f by rw [HP.out] at HS; exact HS.out)
          clear hlt
          go_wp2_with fail
          go_end0
          exact ⟨G, C, f, rfl, HM.out, HS2.out, HW.out⟩
end Go.Proofs.Ytlnehhhlpdaebaa
