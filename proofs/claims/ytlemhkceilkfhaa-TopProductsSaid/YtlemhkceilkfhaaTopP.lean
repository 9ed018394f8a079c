/- The statement TopProducts: schoolbook, Karatsuba and transform multiplication agree. -/
import Derived.Test.YtlemhkceilkfhaaNtC5
import Derived.Test.YtlemhkceilkfhaaNtF
import Derived.Test.YtlemhkceilkfhaaKaC3
import Derived.Test.YtlemhkceilkfhaaPolC2
import Derived.Test.YtlemhkceilkfhaaPolTrim
import Derived.Test.YtlemhkceilkfhaaTopPM
namespace Go.Proofs.Ytlemhkceilkfhaa
open Go.ChangeShapes Go.WideShapes Go.ChangeAt Go.RowKit
set_option linter.unusedVariables false

def fxC (i : Nat) : Nt.G := if i = 0 then 1 else 0
def fxD (i : Nat) : Nt.G := if i = 0 then 5 else 0
theorem fxC_nt : Nt.nt fxC = [1, 0, 0, 0, 0, 0, 0, 0] := by decide
theorem fxD_nt : Nt.nt fxD = [5, 0, 0, 0, 0, 0, 0, 0] := by decide
theorem fxCD : Nt.nt (Nt.bk (fun k => Nt.tr 64 fxC k * Nt.tr 64 fxD k)) = [5, 0, 0, 0, 0, 0, 0, 0] := by
  rw [Nt.nt_congr (fun i hi => Nt.fold_bk fxC fxD i hi)]; decide +kernel

/-- The closed fact: a fold of two rows that are laid there. -/
theorem foldFact (w : World) (A B : Option Addr) (ha : Lies w A [1, 0, 0, 0, 0, 0, 0, 0]) (hb : Lies w B [5, 0, 0, 0, 0, 0, 0, 0]) :
    Calls Try.prog 11 #[.slice A 8 8, .slice B 8 8] w fun e w' => ∃ g, e = .returned (.tuple #[.slice (some ⟨g, 0, none⟩) 8 8, .nilIface]) ∧ w'.cell? ⟨g, 0, none⟩ = some (.int .i64 5) ∧ Kp w w' := by
  have h := fold_ok A B fxC fxD 8 8 w (by rw [fxC_nt]; exact ha) (by rw [fxD_nt]; exact hb)
  unfold NGives at h
  rw [fxCD] at h
  exact h.mono fun e w' ⟨g, he, hl, hk⟩ => ⟨g, he, lies_at hl 0 (by decide), hk⟩

set_option maxRecDepth 100000 in
set_option maxHeartbeats 1600000 in
theorem topP_short (A B : Option Addr) (l m : List Int) (ca cb : Nat) (w : World) (h : l.length ≠ 4) :
    Calls Try.prog 6 #[.slice A l.length ca, .slice B m.length cb] w fun e w' => e = .returned (.bool true) ∧ Kp w w' := by
  generalize l.length = n1 at *
  generalize m.length = n2 at *
  have h1 : ((n1 : Int) != 4) = true := by rw [bne_iff_ne]; omega
  clear h
  go_enter Try.func6, Try.ntmps6
  go_wp2_with fail
  refine (foldFact _ _ _ ((lies_new w _ [1, 0, 0, 0, 0, 0, 0, 0]).keep ((Kp.rfl' _).new _)) (lies_new' (w.alloc _) _ [5, 0, 0, 0, 0, 0, 0, 0] _ (by simp))).mono ?_
  rintro e w1 ⟨g1, rfl, c1, hk⟩
  have K1 := Lib.hid ((((Kp.rfl' w).new _).new _).trans hk)
  clear hk
  go_wp2_with fail
  go_ret
  exact ⟨rfl, K1.out⟩

set_option maxRecDepth 100000 in
set_option maxHeartbeats 1600000 in
theorem topP_short2 (A B : Option Addr) (m : List Int) (ca cb : Nat) (w : World) (h : m.length ≠ 4) :
    Calls Try.prog 6 #[.slice A 4 ca, .slice B m.length cb] w fun e w' => e = .returned (.bool true) ∧ Kp w w' := by
  generalize m.length = n2 at *
  have h1 : ((n2 : Int) != 4) = true := by rw [bne_iff_ne]; omega
  clear h
  go_enter Try.func6, Try.ntmps6
  go_wp2_with fail
  refine (foldFact _ _ _ ((lies_new w _ [1, 0, 0, 0, 0, 0, 0, 0]).keep ((Kp.rfl' _).new _)) (lies_new' (w.alloc _) _ [5, 0, 0, 0, 0, 0, 0, 0] _ (by simp))).mono ?_
  rintro e w1 ⟨g1, rfl, c1, hk⟩
  have K1 := Lib.hid ((((Kp.rfl' w).new _).new _).trans hk)
  clear hk
  go_wp2_with fail
  go_ret
  exact ⟨rfl, K1.out⟩

set_option maxRecDepth 100000 in
set_option maxHeartbeats 1600000 in
theorem topP_out (A B : Option Addr) (l m : List Int) (ca cb : Nat) (w : World) (ha : Lies w A l) (hb : Lies w B m) (hl : l.length = 4) (hm : m.length = 4) (h : ¬ (AllIn l 0 7 ∧ AllIn m 0 7)) :
    Calls Try.prog 6 #[.slice A 4 ca, .slice B 4 cb] w fun e w' => e = .returned (.bool true) ∧ Kp w w' := by
  have AL := Lib.hid (fun (wx : World) (k : Kp w wx) => by
    have h := all_any A l ca 0 7 wx (ha.keep k) (by omega)
    rw [hl] at h
    exact h)
  have AM := Lib.hid (fun (wx : World) (k : Kp w wx) => by
    have h := all_any B m cb 0 7 wx (hb.keep k) (by omega)
    rw [hm] at h
    exact h)
  have NO := Lib.hid h
  clear ha hb hl hm h
  go_enter Try.func6, Try.ntmps6
  go_wp2_with fail
  refine (foldFact _ _ _ ((lies_new w _ [1, 0, 0, 0, 0, 0, 0, 0]).keep ((Kp.rfl' _).new _)) (lies_new' (w.alloc _) _ [5, 0, 0, 0, 0, 0, 0, 0] _ (by simp))).mono ?_
  rintro e w1 ⟨g1, rfl, c1, hk⟩
  have K1 := Lib.hid ((((Kp.rfl' w).new _).new _).trans hk)
  clear hk
  go_wp2_with fail
  refine (AL.out _ K1.out).mono ?_; rintro e w' ⟨ht, rfl⟩
  by_cases h1 : AllIn l 0 7
  · obtain rfl := tells_yes ht h1
    have h2 := Lib.hid (fun hh => NO.out ⟨h1, hh⟩)
    clear ht h1
    go_wp2_with fail
    refine (AM.out _ K1.out).mono ?_; rintro e w' ⟨ht, rfl⟩
    obtain rfl := tells_no ht h2.out
    clear ht
    go_wp2_with fail
    go_ret
    exact ⟨rfl, K1.out⟩
  · obtain rfl := tells_no ht h1
    clear ht h1
    go_wp2_with fail
    go_ret
    exact ⟨rfl, K1.out⟩

set_option maxRecDepth 100000 in
set_option maxHeartbeats 3200000 in
theorem topP_ok (A B : Option Addr) (x0 x1 x2 x3 y0 y1 y2 y3 : Int) (ca cb : Nat) (w : World) (ha : Lies w A [x0, x1, x2, x3]) (hb : Lies w B [y0, y1, y2, y3]) (hca : 4 ≤ ca) (hcb : 4 ≤ cb)
    (a0 : 0 ≤ x0 ∧ x0 ≤ 7) (a1 : 0 ≤ x1 ∧ x1 ≤ 7) (a2 : 0 ≤ x2 ∧ x2 ≤ 7) (a3 : 0 ≤ x3 ∧ x3 ≤ 7) (b0 : 0 ≤ y0 ∧ y0 ≤ 7) (b1 : 0 ≤ y1 ∧ y1 ≤ 7) (b2 : 0 ≤ y2 ∧ y2 ≤ 7) (b3 : 0 ≤ y3 ∧ y3 ≤ 7) :
    Calls Try.prog 6 #[.slice A 4 ca, .slice B 4 cb] w fun e w' => e = .returned (.bool true) ∧ Kp w w' := by
  obtain ⟨l, hl⟩ : ∃ l, l = [x0, x1, x2, x3] := ⟨_, rfl⟩
  obtain ⟨m, hm⟩ : ∃ m, m = [y0, y1, y2, y3] := ⟨_, rfl⟩
  have L4 : l.length = 4 := by rw [hl]; rfl
  have M4 : m.length = 4 := by rw [hm]; rfl
  have IL : ∀ k, k < l.length → 0 ≤ l.getD k 0 ∧ l.getD k 0 ≤ 7 := fun k hk => by
    subst hl
    match k, hk with
    | 0, _ => exact a0
    | 1, _ => exact a1
    | 2, _ => exact a2
    | 3, _ => exact a3
    | n + 4, h => exact absurd h (by simp)
  have IM : ∀ k, k < m.length → 0 ≤ m.getD k 0 ∧ m.getD k 0 ≤ 7 := fun k hk => by
    subst hm
    match k, hk with
    | 0, _ => exact b0
    | 1, _ => exact b1
    | 2, _ => exact b2
    | 3, _ => exact b3
    | n + 4, h => exact absurd h (by simp)
  have VL : Pol.vals (TopP.fac l) = l := TopP.vals_fac fun x hx => by
    rw [hl] at hx; simp only [List.mem_cons, List.not_mem_nil, or_false] at hx
    rcases hx with rfl | rfl | rfl | rfl <;> omega
  have VM : Pol.vals (TopP.fac m) = m := TopP.vals_fac fun x hx => by
    rw [hm] at hx; simp only [List.mem_cons, List.not_mem_nil, or_false] at hx
    rcases hx with rfl | rfl | rfl | rfl <;> omega
  have FL : (TopP.fac l).length = 4 := by rw [TopP.fac, List.length_map, L4]
  have FM : (TopP.fac m).length = 4 := by rw [TopP.fac, List.length_map, M4]
  obtain ⟨P, hP⟩ : ∃ P, P = TopP.pr x0 x1 x2 x3 y0 y1 y2 y3 := ⟨_, rfl⟩
  have PB := TopP.pr_bound a0 a1 a2 a3 b0 b1 b2 b3
  have PL : P.length = 7 := by rw [hP]; rfl
  rw [← hP] at PB
  have VP : Pol.vals (TopP.fac P) = P := TopP.vals_fac fun x hx => by have := PB x hx; omega
  have FP : (TopP.fac P).length = 7 := by rw [TopP.fac, List.length_map, PL]
  have KM := Lib.hid (fun (wx : World) (k : Kp w wx) => by
    have h := kmul_ok A B l m 4 7 ca cb wx (by rw [hl]; exact ha.keep k) (by rw [hm]; exact hb.keep k) L4 M4 (by decide) rfl hca hcb (fun k hk => by have := IL k hk; omega) (fun k hk => by have := IM k hk; omega)
    rw [show Ka.prod 4 l m = P by rw [hl, hm, hP]; exact TopP.prod_pr] at h
    exact h)
  have PM := Lib.hid (fun (wx : World) (k : Kp w wx) => by
    have h := mul_ok A B (TopP.fac l) (TopP.fac m) ca cb wx (by rw [VL, hl]; exact ha.keep k) (by rw [VM, hm]; exact hb.keep k) (by rw [FL]; decide) (by rw [FM]; decide)
    rw [FL, FM, show Pol.mul (TopP.fac l) (TopP.fac m) = Pol.trim (TopP.fac P) by rw [hl, hm, hP]; exact TopP.trim_pr.symm] at h
    exact h)
  have TR := Lib.hid (fun (X : Option Addr) (cx : Nat) (wx : World) (hx : Lies wx X P) (hc : 7 ≤ cx) => by
    have h := rTrim_any X (TopP.fac P) cx wx (by rw [VP]; exact hx) (by rw [FP]; exact hc) (by rw [FP]; decide)
    rw [FP] at h
    exact h)
  have FO := Lib.hid (fun (X Y : Option Addr) (cx cy : Nat) (wx : World) (hx : Lies wx X (l ++ [0, 0, 0, 0])) (hy : Lies wx Y (m ++ [0, 0, 0, 0])) => by
    have h := fold_ok X Y (TopP.pad x0 x1 x2 x3) (TopP.pad y0 y1 y2 y3) cx cy wx (by rw [TopP.pad_nt a0 a1 a2 a3]; rw [hl] at hx; exact hx) (by rw [TopP.pad_nt b0 b1 b2 b3]; rw [hm] at hy; exact hy)
    unfold NGives at h
    rw [Nt.nt_congr (fun i hi => Nt.fold_bk _ _ i hi), TopP.fold_pr a0 a1 a2 a3 b0 b1 b2 b3, ← hP] at h
    exact h)
  have AL := Lib.hid (fun (wx : World) (k : Kp w wx) => show Calls Try.prog 14 #[.slice A 4 ca, .int .i64 0, .int .i64 7] wx fun e w' => e = .returned (.bool true) ∧ wx = w' from by
    have h := all_any A l ca 0 7 wx (by rw [hl]; exact ha.keep k) (by omega)
    rw [L4] at h
    exact h.mono fun e w' ⟨ht, hw⟩ => ⟨tells_yes ht IL, hw⟩)
  have AM := Lib.hid (fun (wx : World) (k : Kp w wx) => show Calls Try.prog 14 #[.slice B 4 cb, .int .i64 0, .int .i64 7] wx fun e w' => e = .returned (.bool true) ∧ wx = w' from by
    have h := all_any B m cb 0 7 wx (by rw [hm]; exact hb.keep k) (by omega)
    rw [M4] at h
    exact h.mono fun e w' ⟨ht, hw⟩ => ⟨tells_yes ht IM, hw⟩)
  have HA := Lib.hid (show Lies w A l by rw [hl]; exact ha)
  have HB := Lib.hid (show Lies w B m by rw [hm]; exact hb)
  have HL4 := Lib.hid L4
  have HM4 := Lib.hid M4
  have HPL := Lib.hid PL
  have VT := Lib.hid (show (Pol.vals (Pol.trim (TopP.fac P))).length = (Pol.trim (TopP.fac P)).length from Pol.len_vals _)
  have TL := Lib.hid (show Pol.vals (Pol.trim (TopP.fac P)) = P.take (Pol.trim (TopP.fac P)).length by rw [Pol.trim_take (TopP.fac P), Pol.vals_take, VP, ← Pol.trim_take])
  have TN : (Pol.trim (TopP.fac P)).length ≤ 7 := by have := Pol.len_trim (TopP.fac P); omega
  clear ha hb hl hm L4 M4 IL IM VL VM FL FM hP PB PL VP FP a0 a1 a2 a3 b0 b1 b2 b3
  unfold MulGives at KM
  unfold Gives at PM
  generalize Pol.trim (TopP.fac P) = T at *
  generalize kcnt 4 = kc at *
  go_enter Try.func6, Try.ntmps6
  go_wp2_with fail
  refine (foldFact _ _ _ ((lies_new w _ [1, 0, 0, 0, 0, 0, 0, 0]).keep ((Kp.rfl' _).new _)) (lies_new' (w.alloc _) _ [5, 0, 0, 0, 0, 0, 0, 0] _ (by simp))).mono ?_
  rintro e w1 ⟨g1, rfl, c1, hk⟩
  have K1 := Lib.hid ((((Kp.rfl' w).new _).new _).trans hk)
  clear hk
  go_wp2_with fail
  refine (AL.out _ K1.out).mono ?_; rintro e w' ⟨rfl, rfl⟩
  go_wp2_with fail
  refine (AM.out _ K1.out).mono ?_; rintro e w' ⟨rfl, rfl⟩
  go_wp2_with fail
  refine (KM.out _ K1.out).mono ?_; rintro e w2 ⟨Ax, cx, rfl, lcx, lx, hk⟩
  have LX := Lib.hid lx
  have K2 := Lib.hid (K1.out.trans hk)
  clear hk lx
  go_wp2_with fail
  refine (PM.out _ K2.out).mono ?_; rintro e w3 ⟨Ay, cy, rfl, ly, lcy, hk⟩
  have LY := Lib.hid ly
  have LX := Lib.hid (LX.out.keep hk)
  have K3 := Lib.hid (K2.out.trans hk)
  clear hk ly c1
  go_wp2_with (first
    | (at_builtin; refine wpList_cat rfl (.tmp 66) (.tmp 67) rfl w3.heap.size (.slice none 0 0) [] l A 4 ca rfl rfl HL4.out.symm (Own.none _ _) (HA.out.keep K3.out) (by have := HL4.out; simp; omega) (Nat.le_refl _) ?_; intro v4 w4 p1 p2 p3; have O4 := Lib.hid p1; have K4 := Lib.hid (own_below (Own.none _ w3.heap.size) (Kp.rfl' w3) (Nat.le_refl _) p2); clear p1 p2 p3)
    | (at_builtin; refine wpList_cat rfl (.tmp 69) (.tmp 70) rfl w3.heap.size (.slice none 0 0) [] m B 4 cb rfl rfl HM4.out.symm (Own.none _ _) (HB.out.keep (K3.out.trans K4.out)) (by have := HM4.out; simp; omega) K4.out.size ?_; intro v5 w5 p1 p2 p3; have TW := Lib.hid (two_start O4.out K4.out p1 p2 p3); clear p1 p2 p3)
    | (at_builtin; refine wpList_cat rfl (.tmp 73) (.tmp 74) rfl w3.heap.size v4 ([] ++ l) [0, 0, 0, 0] (some ⟨w5.heap.size, 0, none⟩) 4 4 rfl rfl rfl (TW.out.new _).one (lies_new w5 _ [0, 0, 0, 0]) (by have := HL4.out; simp; omega) (TW.out.new (.cells (ints [0, 0, 0, 0]).toArray 3)).kp.size ?_; intro v6 w6 p1 p2 p3; have TX := Lib.hid ((TW.out.new _).grown p1 p2 p3); clear p1 p2 p3)
    | (at_builtin; refine wpList_cat rfl (.tmp 76) (.tmp 77) rfl w3.heap.size v5 ([] ++ m) [0, 0, 0, 0] (some ⟨w6.heap.size, 0, none⟩) 4 4 rfl rfl rfl (TX.out.new _).two (lies_new w6 _ [0, 0, 0, 0]) (by have := HM4.out; simp; omega) (TX.out.new (.cells (ints [0, 0, 0, 0]).toArray 3)).kp.size ?_; intro v7 w7 p1 p2 p3; have TY := Lib.hid ((TX.out.new _).symm.grown p1 p2 p3).symm; clear p1 p2 p3))
  obtain ⟨Ac, cc, hvc, Lc⟩ := TY.out.one.lies
  obtain ⟨Ad, cd, hvd, Ld⟩ := TY.out.two.lies
  rw [show ([] ++ l ++ [0, 0, 0, 0] : List Int).length = 8 by have := HL4.out; simp; omega] at hvc
  rw [show ([] ++ m ++ [0, 0, 0, 0] : List Int).length = 8 by have := HM4.out; simp; omega] at hvd
  rw [List.nil_append] at Lc Ld
  have K7 := Lib.hid (show Kp w3 w7 from TY.out.kp)
  have LC := Lib.hid Lc
  have LD := Lib.hid Ld
  clear TY TX TW O4 K4 Lc Ld
  subst hvc hvd
  refine (FO.out Ac Ad cc cd _ LC.out LD.out).mono ?_; rintro e w8 ⟨g8, rfl, l8, hk⟩
  have L8 := Lib.hid l8
  have K8 := Lib.hid (K7.out.trans hk)
  clear hk l8 LC LD
  have LX := Lib.hid (LX.out.keep K8.out)
  have LY := Lib.hid (LY.out.keep K8.out)
  have T8 := Lib.hid (K3.out.trans K8.out)
  have c7 := lies_at L8.out 7 (by rw [List.length_append, HPL.out]; decide)
  have e7 : List.getD (P ++ [(0 : Int)]) 7 0 = 0 := by
    rw [List.getD_eq_getElem?_getD, List.getElem?_append_right (by rw [HPL.out]; decide), HPL.out]; rfl
  rw [e7] at c7
  clear e7
  have C7 := Lib.hid c7
  have Z7 := Lib.hid (show Lies w8 (some ⟨g8, 0, none⟩) P by
    have h := L8.out.take 7
    rwa [List.take_append_of_le_length (by rw [HPL.out]; decide), List.take_of_length_le (by rw [HPL.out]; decide)] at h)
  have XT := Lib.hid (show Lies w8 Ax (Pol.vals T) by rw [TL.out]; exact LX.out.take _)
  clear c7
  go_wp2_with fail
  refine (TR.out Ax cx _ LX.out lcx).mono ?_; rintro e w' ⟨rfl, rfl⟩
  go_wp2_with fail
  refine (same_eq Ax Ay (Pol.vals T) (Pol.vals T) T.length T.length cx cy _ XT.out LY.out VT.out.symm VT.out.symm (by omega) rfl).mono ?_; rintro e w9 ⟨rfl, hk⟩
  have K9 := Lib.hid hk
  clear hk
  go_wp2_with fail
  refine (same_eq (some ⟨g8, 0, none⟩) Ax P P 7 7 8 cx _ (Z7.out.keep K9.out) (LX.out.keep K9.out) HPL.out.symm HPL.out.symm (by decide) rfl).mono ?_; rintro e w10 ⟨rfl, hk⟩
  have K10 := Lib.hid (K9.out.trans hk)
  clear hk
  have c7 : w10.cell? ⟨g8, 7, none⟩ = some (.int .i64 0) := (K10.out.cell (p := ⟨g8, 7, none⟩) (cell_lt C7.out)).trans C7.out
  go_wp2_with fail
  go_ret
  exact ⟨rfl, T8.out.trans K10.out⟩

theorem walk_TopProducts (A : Option Addr) (l : List Int) (ca : Nat) (B : Option Addr) (m : List Int) (cb : Nat) (w : World) (ha : Lies w A l) (lc : l.length ≤ ca) (hb : Lies w B m) (ld : m.length ≤ cb) :
    Calls Try.prog 6 #[.slice A l.length ca, .slice B m.length cb] w fun e w' => e = .returned (.bool true) ∧ Kp w w' := by
  by_cases h1 : l.length = 4
  · by_cases h2 : m.length = 4
    · by_cases h3 : AllIn l 0 7 ∧ AllIn m 0 7
      · obtain ⟨x0, x1, x2, x3, rfl⟩ := TopP.four_of h1
        obtain ⟨y0, y1, y2, y3, rfl⟩ := TopP.four_of h2
        exact topP_ok A B x0 x1 x2 x3 y0 y1 y2 y3 ca cb w ha hb lc ld (h3.1 0 (by simp)) (h3.1 1 (by simp)) (h3.1 2 (by simp)) (h3.1 3 (by simp)) (h3.2 0 (by simp)) (h3.2 1 (by simp)) (h3.2 2 (by simp)) (h3.2 3 (by simp))
      · have h := topP_out A B l m ca cb w ha hb h1 h2 h3
        rw [h1, h2]; exact h
    · have h := topP_short2 A B m ca cb w h2
      rw [h1]; exact h
  · exact topP_short A B l m ca cb w h1

end Go.Proofs.Ytlemhkceilkfhaa
