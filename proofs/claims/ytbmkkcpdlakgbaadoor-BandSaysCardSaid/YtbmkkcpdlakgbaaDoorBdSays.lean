/- The walk of BandSays. -/
import Derived.Test.YtbmkkcpdlakgbaaDoorBdRef2
import Derived.Test.YtbmkkcpdlakgbaaDoorBdC5
import Derived.Test.YtbmkkcpdlakgbaaDoorBdC7
import Derived.Test.YtbmkkcpdlakgbaaDoorSoR1
import Derived.Test.YtbmkkcpdlakgbaaDoorMxRef4
import Derived.Test.YtbmkkcpdlakgbaaDoorRowsG
import Derived.Test.YtbmkkcpdlakgbaaDoorErrG
namespace Go.Proofs.YtbmkkcpdlakgbaaDoor
open Go.ChangeShapes Go.WideShapes Go.ChangeAt Go.RowKit
set_option linter.unusedVariables false

theorem ints_none (w : World) : Calls Tryd.prog 13 #[.slice none 0 0, .slice none 0 0] w fun e w' => e = .returned (.bool true) ∧ Kp w w' :=
  same_eq none none [] [] 0 0 0 0 w (Lies.empty _ _) (Lies.empty _ _) rfl rfl (by decide) rfl
theorem rows_none (w : World) : Calls Tryd.prog 15 #[.slice none 0 0, .slice none 0 0] w fun e w' => e = .returned (.bool true) ∧ Kp w w' :=
  rows_eq none none [] [] 0 0 0 0 w (LiesM.empty _ _) (LiesM.empty _ _) rfl rfl modest_nil modest_nil rfl

set_option maxRecDepth 100000 in
set_option maxHeartbeats 6400000 in
theorem bdsays_bad (A B C X : Option Addr) (L M N Z : List Int) (n q p y c d f g z : Nat) (w : World) (hl : Told.Laid w) (ha : Lies w A L) (hb : Lies w B M) (hc : Lies w C N) (hn : L.length = n) (hq : M.length = q) (hp : N.length = p) (hz : bcode L M N = z) (h0 : z ≠ 0) :
    Calls Tryd.prog 3 #[.slice A n c, .slice B q d, .slice C p f, .slice X y g] w fun e w' => e = .returned (.bool true) ∧ Kp w w' := by
  have hz6 : z ≤ 6 := by have := bcode_some L M N; omega
  have RB := Lib.hid (show Calls Tryd.prog 4 #[.slice A n c, .slice B q d, .slice C p f] w fun e w' => e = .returned (.int .i64 (z : Int)) ∧ w = w' by
    have := rBand_any A B C L M N c d f w ha hb hc; rwa [hz, hn, hq, hp] at this)
  have CK := Lib.hid (show Calls Tryd.prog 6 #[.slice A n c, .slice B q d, .slice C p f] w fun e w' => e = .returned (errOf z) ∧ w = w' by
    have := bChk_any A B C L M N c d f w ha hb hc; rwa [hz, hn, hq, hp] at this)
  have DB := Lib.hid (fun w' (k : Kp w w') => BDet_bad A B C L M N n q p c d f w' (ha.keep k) (hb.keep k) (hc.keep k) hn hq hp (by rw [hz]; exact h0))
  have MB := Lib.hid (fun w' (k : Kp w w') => BMul_bad A B C X L M N n q p y c d f g w' (ha.keep k) (hb.keep k) (hc.keep k) hn hq hp (by rw [hz]; exact h0))
  have FB := Lib.hid (fun w' (k : Kp w w') => BFull_bad A B C L M N n q p c d f w' (ha.keep k) (hb.keep k) (hc.keep k) hn hq hp (by rw [hz]; exact h0))
  have ERZ := Lib.hid (fun (wx : World) (hx : Kp w wx) => error_says z wx (laid_kp hl hx) (by omega))
  rw [hz] at DB MB FB
  rw [errOf_ne _ h0] at CK DB MB FB ERZ
  clear hl ha hb hc hn hq hp hz
  have e1 : ((z : Int) == 0) = false := by rw [beq_eq_false_iff_ne]; omega
  have e2 : ((z : Int) != 0) = true := by rw [bne_iff_ne]; omega
  go_enter Tryd.func3, Tryd.ntmps3
  go_wp2_with fail
  refine (RB.out).mono ?_; rintro e w' ⟨rfl, rfl⟩
  go_wp2_with fail
  refine (CK.out).mono ?_; rintro e w' ⟨rfl, rfl⟩
  go_wp2_with fail
  refine (ERZ.out w (Kp.rfl' w)).mono ?_; rintro e w1 ⟨rfl, k1⟩
  have K1 := Lib.hid k1; clear k1
  go_wp2_with fail
  refine (DB.out w1 K1.out).mono ?_; rintro e w' ⟨rfl, rfl⟩
  go_wp2_with fail
  refine (ERZ.out w1 K1.out).mono ?_; rintro e w2 ⟨rfl, k2⟩
  have K2 := Lib.hid (K1.out.trans k2); clear k2
  go_wp2_with fail
  refine (MB.out w2 K2.out).mono ?_; rintro e w' ⟨rfl, rfl⟩
  go_wp2_with fail
  refine (ERZ.out w2 K2.out).mono ?_; rintro e w3 ⟨rfl, k3⟩
  have K3 := Lib.hid (K2.out.trans k3); clear k3
  go_wp2_with fail
  refine (ints_none w3).mono ?_; rintro e w4 ⟨rfl, k4⟩
  have K4 := Lib.hid (K3.out.trans k4); clear k4
  go_wp2_with fail
  refine (FB.out w4 K4.out).mono ?_; rintro e w' ⟨rfl, rfl⟩
  go_wp2_with fail
  refine (ERZ.out w4 K4.out).mono ?_; rintro e w5 ⟨rfl, k5⟩
  have K5 := Lib.hid (K4.out.trans k5); clear k5
  go_wp2_with fail
  refine (rows_none w5).mono ?_; rintro e w6 ⟨rfl, k6⟩
  have K6 := Lib.hid (K5.out.trans k6); clear k6
  go_wp2_with fail
  go_ret
  exact ⟨rfl, K6.out⟩

set_option maxRecDepth 100000 in
set_option maxHeartbeats 6400000 in
theorem bdsays_shape (A B C X : Option Addr) (q y c d f g : Nat) (m a b : Nat → Fp.F) (w : World) (hl : Told.Laid w) (ha : Lies w A (rowF (q + 1) m)) (hb : Lies w B (rowF q a)) (hc : Lies w C (rowF q b)) (hq : q ≤ 9) (hy : y ≠ q + 1) :
    Calls Tryd.prog 3 #[.slice A (q + 1) c, .slice B q d, .slice C q f, .slice X y g] w fun e w' => e = .returned (.bool true) ∧ Kp w w' := by
  have hbd : Bd q m a b (rowF (q + 1) m) (rowF q a) (rowF q b) := ⟨rfl, rfl, rfl, hq⟩
  have RB := Lib.hid (show Calls Tryd.prog 4 #[.slice A (q + 1) c, .slice B q d, .slice C q f] w fun e w' => e = .returned (.int .i64 0) ∧ w = w' by
    have := rBand_any A B C _ _ _ c d f w ha hb hc; rw [hbd.code] at this; simp only [Mx.len_row] at this; exact this)
  have CK := Lib.hid (bChk_bd (c := c) (d := d) (f := f) ha hb hc hq)
  have RF := Lib.hid (fun w' (k : Kp w w') => rFull_any A B C q c d f m a b w' (ha.keep k) (hb.keep k) (hc.keep k) hq)
  have RD := Lib.hid (fun w' A' d' (h : LiesM w' A' (Mx.matl (q + 1) (q + 1) (Mx.bnd m a b))) => rDetMod_any (q + 1) (by omega) A' (Mx.bnd m a b) d' w' h)
  have DB := Lib.hid (fun w' (k : Kp w w') => BDet_ok A B C q c d f m a b w' (ha.keep k) (hb.keep k) (hc.keep k) hq)
  rw [← Mx.dt_bnd] at DB
  have FBig := Lib.hid (fun w' (k : Kp w w') (h : 4 < q) => BFull_big A B C q c d f m a b w' (ha.keep k) (hb.keep k) (hc.keep k) hq h)
  rw [errOf_ne 4 (by decide)] at FBig
  have FOk := Lib.hid (fun w' (k : Kp w w') (h : q ≤ 4) => BFull_ok A B C q c d f m a b w' (ha.keep k) (hb.keep k) (hc.keep k) h)
  have ER0 := Lib.hid (fun (wx : World) (hx : Kp w wx) => show Calls Tryd.prog 5 #[.nilIface, .int .i64 0] wx fun e w' => e = .returned (.bool true) ∧ Kp wx w' from error_says 0 wx (laid_kp hl hx) (by decide))
  have ER4 := Lib.hid (fun (wx : World) (hx : Kp w wx) => error_says 4 wx (laid_kp hl hx) (by decide))
  rw [errOf_ne 4 (by decide)] at ER4
  have RWE := Lib.hid (fun (wx : World) (A' B' : Option Addr) (c' d' : Nat) (h1 : LiesM wx A' (Mx.matl (q + 1) (q + 1) (Mx.bnd m a b))) (h2 : LiesM wx B' (Mx.matl (q + 1) (q + 1) (Mx.bnd m a b))) => rows_eq A' B' _ _ (q + 1) (q + 1) c' d' wx h1 h2 (Mx.len_matl _ _ _) (Mx.len_matl _ _ _) (modest_tab _ (by omega) (by omega)) (modest_tab _ (by omega) (by omega)) rfl)
  have MU := Lib.hid (fun w' (k : Kp w w') => BMul_shape A B C X q y c d f g m a b w' (ha.keep k) (hb.keep k) (hc.keep k) hq hy)
  rw [errOf_ne 3 (by decide)] at MU
  have ERM := Lib.hid (fun (wx : World) (hx : Kp w wx) => error_says 3 wx (laid_kp hl hx) (by decide))
  rw [errOf_ne 3 (by decide)] at ERM
  have ey : ((y : Int) != ((q + 1 : Nat) : Int)) = true := by rw [bne_iff_ne]; omega
  clear hl ha hb hc hq hy
  generalize ((Mx.dt (q + 1) (Mx.bnd m a b)).val : Int) = dv at *
  generalize Mx.bnd m a b = F at *
  generalize hgn : q + 1 = n at *
  have HGN := Lib.hid hgn
  clear hgn hbd
  go_enter Tryd.func3, Tryd.ntmps3
  go_wp2_with fail
  refine (RB.out).mono ?_; rintro e w' ⟨rfl, rfl⟩
  go_wp2_with fail
  refine (CK.out).mono ?_; rintro e w' ⟨rfl, rfl⟩
  go_wp2_with fail
  refine (ER0.out w (Kp.rfl' w)).mono ?_; rintro e w1 ⟨rfl, k1⟩
  have K1 := Lib.hid k1; clear k1
  go_wp2_with fail
  refine (RF.out w1 K1.out).mono ?_; rintro e w2 ⟨v, G, C', rfl, om, k2⟩
  obtain ⟨Af, df, rfl, lf, _⟩ := om.lies
  rw [Mx.len_matl]
  have K2 := Lib.hid (K1.out.trans k2)
  have LF2 := Lib.hid lf
  clear om lf k2
  go_wp2_with fail
  refine (RD.out w2 Af df LF2.out).mono ?_; rintro e w3 ⟨rfl, k3⟩
  have K3 := Lib.hid (K2.out.trans k3)
  have LF3 := Lib.hid (LF2.out.keep k3)
  clear k3
  go_wp2_with fail
  refine (DB.out w3 K3.out).mono ?_; rintro e w4 ⟨rfl, k4⟩
  have K4 := Lib.hid (K3.out.trans k4)
  have LF4 := Lib.hid (LF3.out.keep k4)
  clear k4
  go_wp2_with fail
  refine (ER0.out w4 K4.out).mono ?_; rintro e w5 ⟨rfl, k5⟩
  have K5 := Lib.hid (K4.out.trans k5)
  have LF5 := Lib.hid (LF4.out.keep k5)
  clear k5 LF2 LF3 LF4 K1 K2 K3 K4
  go_wp2_with fail
  refine (MU.out w5 K5.out).mono ?_; rintro e w' ⟨rfl, rfl⟩
  go_wp2_with fail
  refine (ERM.out w5 K5.out).mono ?_; rintro e w6 ⟨rfl, k6⟩
  have K6 := Lib.hid (K5.out.trans k6)
  have LF6 := Lib.hid (LF5.out.keep k6)
  clear k6
  go_wp2_with fail
  refine (ints_none w6).mono ?_; rintro e wm ⟨rfl, km⟩
  have KM := Lib.hid (K6.out.trans km)
  have LFM := Lib.hid (LF6.out.keep km)
  clear km K5 K6 LF5 LF6
  by_cases h5 : 5 < n
  · have h5' : (5 : Int) < (n : Int) := by omega
    go_wp2_with fail
    refine (FBig.out wm KM.out (by have := HGN.out; omega)).mono ?_; rintro e w' ⟨rfl, rfl⟩
    go_wp2_with fail
    refine (ER4.out wm KM.out).mono ?_; rintro e w8 ⟨rfl, k8⟩
    have K8 := Lib.hid (KM.out.trans k8); clear k8
    go_wp2_with fail
    refine (rows_none w8).mono ?_; rintro e w9 ⟨rfl, k9⟩
    have K9 := Lib.hid (K8.out.trans k9); clear k9
    go_wp2_with fail
    go_ret
    exact ⟨rfl, K9.out⟩
  · have h5' : ¬ (5 : Int) < (n : Int) := by omega
    go_wp2_with fail
    refine (FOk.out wm KM.out (by have := HGN.out; omega)).mono ?_; rintro e w8 ⟨Ag, dg, rfl, _, lg, k8⟩
    have K8 := Lib.hid (KM.out.trans k8)
    have LF8 := Lib.hid (LFM.out.keep k8)
    have LG8 := Lib.hid lg
    clear k8 lg
    go_wp2_with fail
    refine (ER0.out w8 K8.out).mono ?_; rintro e w9 ⟨rfl, k9⟩
    have K9 := Lib.hid (K8.out.trans k9)
    have LF9 := Lib.hid (LF8.out.keep k9)
    have LG9 := Lib.hid (LG8.out.keep k9)
    clear k9
    go_wp2_with fail
    refine (RWE.out w9 Ag Af dg df LG9.out LF9.out).mono ?_; rintro e w10 ⟨rfl, k10⟩
    have K10 := Lib.hid (K9.out.trans k10); clear k10
    go_wp2_with fail
    go_ret
    exact ⟨rfl, K10.out⟩

set_option maxRecDepth 100000 in
set_option maxHeartbeats 6400000 in
theorem bdsays_range (A B C X : Option Addr) (q y c d f g : Nat) (m a b : Nat → Fp.F) (Z : List Int) (w : World) (hl : Told.Laid w) (ha : Lies w A (rowF (q + 1) m)) (hb : Lies w B (rowF q a)) (hc : Lies w C (rowF q b)) (hq : q ≤ 9) (hx : Lies w X Z) (hZ : Z.length = y) (hy : y = q + 1) (hr : ¬ AllIn Z 0 9972) :
    Calls Tryd.prog 3 #[.slice A (q + 1) c, .slice B q d, .slice C q f, .slice X y g] w fun e w' => e = .returned (.bool true) ∧ Kp w w' := by
  have hbd : Bd q m a b (rowF (q + 1) m) (rowF q a) (rowF q b) := ⟨rfl, rfl, rfl, hq⟩
  have RB := Lib.hid (show Calls Tryd.prog 4 #[.slice A (q + 1) c, .slice B q d, .slice C q f] w fun e w' => e = .returned (.int .i64 0) ∧ w = w' by
    have := rBand_any A B C _ _ _ c d f w ha hb hc; rw [hbd.code] at this; simp only [Mx.len_row] at this; exact this)
  have CK := Lib.hid (bChk_bd (c := c) (d := d) (f := f) ha hb hc hq)
  have RF := Lib.hid (fun w' (k : Kp w w') => rFull_any A B C q c d f m a b w' (ha.keep k) (hb.keep k) (hc.keep k) hq)
  have RD := Lib.hid (fun w' A' d' (h : LiesM w' A' (Mx.matl (q + 1) (q + 1) (Mx.bnd m a b))) => rDetMod_any (q + 1) (by omega) A' (Mx.bnd m a b) d' w' h)
  have DB := Lib.hid (fun w' (k : Kp w w') => BDet_ok A B C q c d f m a b w' (ha.keep k) (hb.keep k) (hc.keep k) hq)
  rw [← Mx.dt_bnd] at DB
  have FBig := Lib.hid (fun w' (k : Kp w w') (h : 4 < q) => BFull_big A B C q c d f m a b w' (ha.keep k) (hb.keep k) (hc.keep k) hq h)
  rw [errOf_ne 4 (by decide)] at FBig
  have FOk := Lib.hid (fun w' (k : Kp w w') (h : q ≤ 4) => BFull_ok A B C q c d f m a b w' (ha.keep k) (hb.keep k) (hc.keep k) h)
  have ER0 := Lib.hid (fun (wx : World) (hx : Kp w wx) => show Calls Tryd.prog 5 #[.nilIface, .int .i64 0] wx fun e w' => e = .returned (.bool true) ∧ Kp wx w' from error_says 0 wx (laid_kp hl hx) (by decide))
  have ER4 := Lib.hid (fun (wx : World) (hx : Kp w wx) => error_says 4 wx (laid_kp hl hx) (by decide))
  rw [errOf_ne 4 (by decide)] at ER4
  have RWE := Lib.hid (fun (wx : World) (A' B' : Option Addr) (c' d' : Nat) (h1 : LiesM wx A' (Mx.matl (q + 1) (q + 1) (Mx.bnd m a b))) (h2 : LiesM wx B' (Mx.matl (q + 1) (q + 1) (Mx.bnd m a b))) => rows_eq A' B' _ _ (q + 1) (q + 1) c' d' wx h1 h2 (Mx.len_matl _ _ _) (Mx.len_matl _ _ _) (modest_tab _ (by omega) (by omega)) (modest_tab _ (by omega) (by omega)) rfl)
  have MU := Lib.hid (fun w' (k : Kp w w') => BMul_range A B C X Z q y c d f g m a b w' (ha.keep k) (hb.keep k) (hc.keep k) hq (hx.keep k) hZ hy hr)
  rw [errOf_ne 1 (by decide)] at MU
  have ERM := Lib.hid (fun (wx : World) (hx : Kp w wx) => error_says 1 wx (laid_kp hl hx) (by decide))
  rw [errOf_ne 1 (by decide)] at ERM
  have AL := Lib.hid (fun w' (k : Kp w w') => show Calls Tryd.prog 10 #[.slice X y g, .int .i64 0, .int .i64 9972] w' fun e w'' => e = .returned (.bool false) ∧ w' = w'' by
    have := all_any X Z g 0 9972 w' (hx.keep k) (by omega)
    rw [hZ] at this
    exact this.mono fun e w'' ⟨h1, h2⟩ => ⟨tells_no h1 hr, h2⟩)
  subst hy
  have ey : ((((q + 1 : Nat) : Int)) != ((q + 1 : Nat) : Int)) = false := by simp
  clear hl ha hb hc hq hx hZ hr
  generalize ((Mx.dt (q + 1) (Mx.bnd m a b)).val : Int) = dv at *
  generalize Mx.bnd m a b = F at *
  generalize hgn : q + 1 = n at *
  have HGN := Lib.hid hgn
  clear hgn hbd
  go_enter Tryd.func3, Tryd.ntmps3
  go_wp2_with fail
  refine (RB.out).mono ?_; rintro e w' ⟨rfl, rfl⟩
  go_wp2_with fail
  refine (CK.out).mono ?_; rintro e w' ⟨rfl, rfl⟩
  go_wp2_with fail
  refine (ER0.out w (Kp.rfl' w)).mono ?_; rintro e w1 ⟨rfl, k1⟩
  have K1 := Lib.hid k1; clear k1
  go_wp2_with fail
  refine (RF.out w1 K1.out).mono ?_; rintro e w2 ⟨v, G, C', rfl, om, k2⟩
  obtain ⟨Af, df, rfl, lf, _⟩ := om.lies
  rw [Mx.len_matl]
  have K2 := Lib.hid (K1.out.trans k2)
  have LF2 := Lib.hid lf
  clear om lf k2
  go_wp2_with fail
  refine (RD.out w2 Af df LF2.out).mono ?_; rintro e w3 ⟨rfl, k3⟩
  have K3 := Lib.hid (K2.out.trans k3)
  have LF3 := Lib.hid (LF2.out.keep k3)
  clear k3
  go_wp2_with fail
  refine (DB.out w3 K3.out).mono ?_; rintro e w4 ⟨rfl, k4⟩
  have K4 := Lib.hid (K3.out.trans k4)
  have LF4 := Lib.hid (LF3.out.keep k4)
  clear k4
  go_wp2_with fail
  refine (ER0.out w4 K4.out).mono ?_; rintro e w5 ⟨rfl, k5⟩
  have K5 := Lib.hid (K4.out.trans k5)
  have LF5 := Lib.hid (LF4.out.keep k5)
  clear k5 LF2 LF3 LF4 K1 K2 K3 K4
  go_wp2_with fail
  refine (AL.out w5 K5.out).mono ?_; rintro e w' ⟨rfl, rfl⟩
  go_wp2_with fail
  refine (MU.out w5 K5.out).mono ?_; rintro e w' ⟨rfl, rfl⟩
  go_wp2_with fail
  refine (ERM.out w5 K5.out).mono ?_; rintro e w6 ⟨rfl, k6⟩
  have K6 := Lib.hid (K5.out.trans k6)
  have LF6 := Lib.hid (LF5.out.keep k6)
  clear k6
  go_wp2_with fail
  refine (ints_none w6).mono ?_; rintro e wm ⟨rfl, km⟩
  have KM := Lib.hid (K6.out.trans km)
  have LFM := Lib.hid (LF6.out.keep km)
  clear km K5 K6 LF5 LF6
  by_cases h5 : 5 < n
  · have h5' : (5 : Int) < (n : Int) := by omega
    go_wp2_with fail
    refine (FBig.out wm KM.out (by have := HGN.out; omega)).mono ?_; rintro e w' ⟨rfl, rfl⟩
    go_wp2_with fail
    refine (ER4.out wm KM.out).mono ?_; rintro e w8 ⟨rfl, k8⟩
    have K8 := Lib.hid (KM.out.trans k8); clear k8
    go_wp2_with fail
    refine (rows_none w8).mono ?_; rintro e w9 ⟨rfl, k9⟩
    have K9 := Lib.hid (K8.out.trans k9); clear k9
    go_wp2_with fail
    go_ret
    exact ⟨rfl, K9.out⟩
  · have h5' : ¬ (5 : Int) < (n : Int) := by omega
    go_wp2_with fail
    refine (FOk.out wm KM.out (by have := HGN.out; omega)).mono ?_; rintro e w8 ⟨Ag, dg, rfl, _, lg, k8⟩
    have K8 := Lib.hid (KM.out.trans k8)
    have LF8 := Lib.hid (LFM.out.keep k8)
    have LG8 := Lib.hid lg
    clear k8 lg
    go_wp2_with fail
    refine (ER0.out w8 K8.out).mono ?_; rintro e w9 ⟨rfl, k9⟩
    have K9 := Lib.hid (K8.out.trans k9)
    have LF9 := Lib.hid (LF8.out.keep k9)
    have LG9 := Lib.hid (LG8.out.keep k9)
    clear k9
    go_wp2_with fail
    refine (RWE.out w9 Ag Af dg df LG9.out LF9.out).mono ?_; rintro e w10 ⟨rfl, k10⟩
    have K10 := Lib.hid (K9.out.trans k10); clear k10
    go_wp2_with fail
    go_ret
    exact ⟨rfl, K10.out⟩

set_option maxRecDepth 100000 in
set_option maxHeartbeats 6400000 in
theorem bdsays_ok (A B C X : Option Addr) (q y c d f g : Nat) (m a b : Nat → Fp.F) (x : Nat → Fp.F) (w : World) (hl : Told.Laid w) (ha : Lies w A (rowF (q + 1) m)) (hb : Lies w B (rowF q a)) (hc : Lies w C (rowF q b)) (hq : q ≤ 9) (hx : Lies w X (rowF (q + 1) x)) :
    Calls Tryd.prog 3 #[.slice A (q + 1) c, .slice B q d, .slice C q f, .slice X (q + 1) g] w fun e w' => e = .returned (.bool true) ∧ Kp w w' := by
  have hbd : Bd q m a b (rowF (q + 1) m) (rowF q a) (rowF q b) := ⟨rfl, rfl, rfl, hq⟩
  have RB := Lib.hid (show Calls Tryd.prog 4 #[.slice A (q + 1) c, .slice B q d, .slice C q f] w fun e w' => e = .returned (.int .i64 0) ∧ w = w' by
    have := rBand_any A B C _ _ _ c d f w ha hb hc; rw [hbd.code] at this; simp only [Mx.len_row] at this; exact this)
  have CK := Lib.hid (bChk_bd (c := c) (d := d) (f := f) ha hb hc hq)
  have RF := Lib.hid (fun w' (k : Kp w w') => rFull_any A B C q c d f m a b w' (ha.keep k) (hb.keep k) (hc.keep k) hq)
  have RD := Lib.hid (fun w' A' d' (h : LiesM w' A' (Mx.matl (q + 1) (q + 1) (Mx.bnd m a b))) => rDetMod_any (q + 1) (by omega) A' (Mx.bnd m a b) d' w' h)
  have DB := Lib.hid (fun w' (k : Kp w w') => BDet_ok A B C q c d f m a b w' (ha.keep k) (hb.keep k) (hc.keep k) hq)
  rw [← Mx.dt_bnd] at DB
  have FBig := Lib.hid (fun w' (k : Kp w w') (h : 4 < q) => BFull_big A B C q c d f m a b w' (ha.keep k) (hb.keep k) (hc.keep k) hq h)
  rw [errOf_ne 4 (by decide)] at FBig
  have FOk := Lib.hid (fun w' (k : Kp w w') (h : q ≤ 4) => BFull_ok A B C q c d f m a b w' (ha.keep k) (hb.keep k) (hc.keep k) h)
  have ER0 := Lib.hid (fun (wx : World) (hx : Kp w wx) => show Calls Tryd.prog 5 #[.nilIface, .int .i64 0] wx fun e w' => e = .returned (.bool true) ∧ Kp wx w' from error_says 0 wx (laid_kp hl hx) (by decide))
  have ER4 := Lib.hid (fun (wx : World) (hx : Kp w wx) => error_says 4 wx (laid_kp hl hx) (by decide))
  rw [errOf_ne 4 (by decide)] at ER4
  have RWE := Lib.hid (fun (wx : World) (A' B' : Option Addr) (c' d' : Nat) (h1 : LiesM wx A' (Mx.matl (q + 1) (q + 1) (Mx.bnd m a b))) (h2 : LiesM wx B' (Mx.matl (q + 1) (q + 1) (Mx.bnd m a b))) => rows_eq A' B' _ _ (q + 1) (q + 1) c' d' wx h1 h2 (Mx.len_matl _ _ _) (Mx.len_matl _ _ _) (modest_tab _ (by omega) (by omega)) (modest_tab _ (by omega) (by omega)) rfl)
  have MU := Lib.hid (fun w' (k : Kp w w') => BMul_ok A B C X q c d f g m a b x w' (ha.keep k) (hb.keep k) (hc.keep k) hq (hx.keep k))
  have TO := Lib.hid (fun w' A' d' (k : Kp w w') (h : LiesM w' A' (Mx.matl (q + 1) (q + 1) (Mx.bnd m a b))) => rTo_any A' X (Mx.bnd m a b) x (q + 1) (q + 1) d' g w' h (hx.keep k) (by omega) (by omega))
  have AL := Lib.hid (fun w' (k : Kp w w') => show Calls Tryd.prog 10 #[.slice X (q + 1) g, .int .i64 0, .int .i64 9972] w' fun e w'' => e = .returned (.bool true) ∧ w' = w'' by
    have := all_any X (rowF (q + 1) x) g 0 9972 w' (hx.keep k) (by rw [Mx.len_row]; omega)
    rw [Mx.len_row] at this
    exact this.mono fun e w'' ⟨h1, h2⟩ => ⟨tells_yes h1 (browF_in _ _), h2⟩)
  have INE := Lib.hid (fun (wx : World) (A' B' : Option Addr) (c' d' : Nat) (h1 : Lies wx A' (rowF (q + 1) (Mx.tov (q + 1) (Mx.bnd m a b) x))) (h2 : Lies wx B' (rowF (q + 1) (Mx.tov (q + 1) (Mx.bnd m a b) x))) => same_eq A' B' _ _ (q + 1) (q + 1) c' d' wx h1 h2 (Mx.len_row _ _).symm (Mx.len_row _ _).symm (by omega) rfl)
  have ey : ((((q + 1 : Nat) : Int)) != ((q + 1 : Nat) : Int)) = false := by simp
  clear hl ha hb hc hq hx
  generalize Mx.tov (q + 1) (Mx.bnd m a b) x = Y at *
  generalize ((Mx.dt (q + 1) (Mx.bnd m a b)).val : Int) = dv at *
  generalize Mx.bnd m a b = F at *
  generalize hgn : q + 1 = n at *
  have HGN := Lib.hid hgn
  clear hgn hbd
  go_enter Tryd.func3, Tryd.ntmps3
  go_wp2_with fail
  refine (RB.out).mono ?_; rintro e w' ⟨rfl, rfl⟩
  go_wp2_with fail
  refine (CK.out).mono ?_; rintro e w' ⟨rfl, rfl⟩
  go_wp2_with fail
  refine (ER0.out w (Kp.rfl' w)).mono ?_; rintro e w1 ⟨rfl, k1⟩
  have K1 := Lib.hid k1; clear k1
  go_wp2_with fail
  refine (RF.out w1 K1.out).mono ?_; rintro e w2 ⟨v, G, C', rfl, om, k2⟩
  obtain ⟨Af, df, rfl, lf, _⟩ := om.lies
  rw [Mx.len_matl]
  have K2 := Lib.hid (K1.out.trans k2)
  have LF2 := Lib.hid lf
  clear om lf k2
  go_wp2_with fail
  refine (RD.out w2 Af df LF2.out).mono ?_; rintro e w3 ⟨rfl, k3⟩
  have K3 := Lib.hid (K2.out.trans k3)
  have LF3 := Lib.hid (LF2.out.keep k3)
  clear k3
  go_wp2_with fail
  refine (DB.out w3 K3.out).mono ?_; rintro e w4 ⟨rfl, k4⟩
  have K4 := Lib.hid (K3.out.trans k4)
  have LF4 := Lib.hid (LF3.out.keep k4)
  clear k4
  go_wp2_with fail
  refine (ER0.out w4 K4.out).mono ?_; rintro e w5 ⟨rfl, k5⟩
  have K5 := Lib.hid (K4.out.trans k5)
  have LF5 := Lib.hid (LF4.out.keep k5)
  clear k5 LF2 LF3 LF4 K1 K2 K3 K4
  go_wp2_with fail
  refine (AL.out w5 K5.out).mono ?_; rintro e w' ⟨rfl, rfl⟩
  go_wp2_with fail
  refine (TO.out w5 Af df K5.out LF5.out).mono ?_; rintro e w6 ⟨At, dt', rfl, lt, k6⟩
  have K6 := Lib.hid (K5.out.trans k6)
  have LF6 := Lib.hid (LF5.out.keep k6)
  have LT6 := Lib.hid lt
  clear k6 lt
  go_wp2_with fail
  refine (MU.out w6 K6.out).mono ?_; rintro e w7 ⟨gp, rfl, rp, k7⟩
  have K7 := Lib.hid (K6.out.trans k7)
  have LF7 := Lib.hid (LF6.out.keep k7)
  have LT7 := Lib.hid (LT6.out.keep k7)
  have RP7 := Lib.hid rp
  clear k7 rp
  go_wp2_with fail
  refine (ER0.out w7 K7.out).mono ?_; rintro e w8 ⟨rfl, k8⟩
  have K8 := Lib.hid (K7.out.trans k8)
  have LF8 := Lib.hid (LF7.out.keep k8)
  have LT8 := Lib.hid (LT7.out.keep k8)
  have RP8 := Lib.hid (RP7.out.keep k8)
  clear k8
  go_wp2_with fail
  refine (INE.out w8 (some ⟨gp, 0, none⟩) At n dt' RP8.out.lies LT8.out).mono ?_; rintro e wm ⟨rfl, km⟩
  have KM := Lib.hid (K8.out.trans km)
  have LFM := Lib.hid (LF8.out.keep km)
  clear km K5 K6 K7 K8 LF5 LF6 LF7 LF8 LT6 LT7 LT8 RP7 RP8
  by_cases h5 : 5 < n
  · have h5' : (5 : Int) < (n : Int) := by omega
    go_wp2_with fail
    refine (FBig.out wm KM.out (by have := HGN.out; omega)).mono ?_; rintro e w' ⟨rfl, rfl⟩
    go_wp2_with fail
    refine (ER4.out wm KM.out).mono ?_; rintro e w8 ⟨rfl, k8⟩
    have K8 := Lib.hid (KM.out.trans k8); clear k8
    go_wp2_with fail
    refine (rows_none w8).mono ?_; rintro e w9 ⟨rfl, k9⟩
    have K9 := Lib.hid (K8.out.trans k9); clear k9
    go_wp2_with fail
    go_ret
    exact ⟨rfl, K9.out⟩
  · have h5' : ¬ (5 : Int) < (n : Int) := by omega
    go_wp2_with fail
    refine (FOk.out wm KM.out (by have := HGN.out; omega)).mono ?_; rintro e w8 ⟨Ag, dg, rfl, _, lg, k8⟩
    have K8 := Lib.hid (KM.out.trans k8)
    have LF8 := Lib.hid (LFM.out.keep k8)
    have LG8 := Lib.hid lg
    clear k8 lg
    go_wp2_with fail
    refine (ER0.out w8 K8.out).mono ?_; rintro e w9 ⟨rfl, k9⟩
    have K9 := Lib.hid (K8.out.trans k9)
    have LF9 := Lib.hid (LF8.out.keep k9)
    have LG9 := Lib.hid (LG8.out.keep k9)
    clear k9
    go_wp2_with fail
    refine (RWE.out w9 Ag Af dg df LG9.out LF9.out).mono ?_; rintro e w10 ⟨rfl, k10⟩
    have K10 := Lib.hid (K9.out.trans k10); clear k10
    go_wp2_with fail
    go_ret
    exact ⟨rfl, K10.out⟩

theorem walk_BandSays (A : Option Addr) (L : List Int) (c : Nat) (B : Option Addr) (M : List Int) (d : Nat) (C : Option Addr) (N : List Int) (f : Nat) (X : Option Addr) (Z : List Int) (g : Nat) (w : World) (hl : Told.Laid w)
    (ha : Lies w A L) (hb : Lies w B M) (hc : Lies w C N) (hx : Lies w X Z) :
    Calls Tryd.prog 3 #[.slice A L.length c, .slice B M.length d, .slice C N.length f, .slice X Z.length g] w fun e w' => e = .returned (.bool true) ∧ Kp w w' := by
  rcases bd_or L M N with ⟨q, m, a, b, bd⟩ | bad
  · obtain ⟨e1, e2, e3, hq⟩ := bd
    subst e1 e2 e3
    rw [Mx.len_row, Mx.len_row, Mx.len_row]
    by_cases hz : Z.length = q + 1
    · by_cases hr : AllIn Z 0 9972
      · obtain ⟨x, hZ⟩ := brow_of hr
        rw [hz] at hZ ⊢
        subst hZ
        exact bdsays_ok A B C X q 0 c d f g m a b x w hl ha hb hc hq hx
      · exact bdsays_range A B C X q _ c d f g m a b Z w hl ha hb hc hq hx rfl hz hr
    · exact bdsays_shape A B C X q _ c d f g m a b w hl ha hb hc hq hz
  · exact bdsays_bad A B C X L M N Z _ _ _ _ c d f g _ w hl ha hb hc rfl rfl rfl rfl bad

end Go.Proofs.YtbmkkcpdlakgbaaDoor
