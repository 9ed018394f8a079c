/- Contracts of package mat's Mul, One, Pow; and the errors of all of its functions. -/
import Derived.Test.YtbmkkcpdlakgbaaMtMul
namespace Go.Proofs.Ytbmkkcpdlakgbaa
open Go.ChangeShapes Go.WideShapes Go.ChangeAt Go.RowKit
set_option linter.unusedVariables false



set_option maxHeartbeats 800000 in
theorem Mul_bad (A B : Option Addr) (a b : List (List Int)) (n m c d : Nat) (w : World) (ha : LiesM w A a) (hb : LiesM w B b) (hn : a.length = n) (hm : b.length = m) (hz : mcode2 a b ≠ 0) :
    Calls Try.prog 14 #[.slice A n c, .slice B m d] w fun e w' => FailsM (mcode2 a b) w e w' := by
  have CH := Lib.hid (checkBoth_any A B a b n m c d w ha hb hn hm)
  have E := Lib.hid (errOf_ne _ hz)
  rw [errOf_ne _ hz] at CH
  unfold FailsM
  rw [E.out]
  generalize mcode2 a b = z at *
  clear ha hb hn hm hz E
  go_enter Try.func14, Try.ntmps14
  go_wp2_with fail
  refine (CH.out).mono ?_; rintro e w' ⟨rfl, rfl⟩
  go_wp2_with fail
  refine bodyPost_ret (v := .tuple #[.slice none 0 0, .iface 54 (.int .i64 (z : Int))]) (by simp [results, Try.results14, go_sem]) rfl ⟨rfl, Kp.rfl' _⟩

set_option maxHeartbeats 800000 in
theorem Mul_shape (A A' : Option Addr) (f f' : Nat → Nat → Fp.F) (r q q' c d d' : Nat) (w : World) (ha : LiesM w A (Mx.matl r q f)) (ha' : LiesM w A' (Mx.matl q' c f')) (hr0 : 0 < r) (hr : r ≤ 5) (hc0 : 0 < c) (hc : c ≤ 5)
    (hq0 : 0 < q) (hq : q ≤ 5) (hq0' : 0 < q') (hq' : q' ≤ 5) (hne : q ≠ q') :
    Calls Try.prog 14 #[.slice A r d, .slice A' q' d'] w fun e w' => FailsM 3 w e w' := by
  have CH := Lib.hid (checkBoth_any A A' (Mx.matl r q f) (Mx.matl q' c f') r q' d d' w ha ha' (Mx.len_matl _ _ _) (Mx.len_matl _ _ _))
  unfold mcode2 at CH
  rw [if_pos (Mx.mcode_matl f hr0 hr hq0 hq), Mx.mcode_matl f' hq0' hq' hc0 hc] at CH
  obtain ⟨ad, A0, d0, rfl, hlt0, hc00, _, _⟩ := ha.row hr0
  rw [add_zero'] at hc00
  have e1 : ((q : Int) != (q' : Int)) = true := by rw [bne_iff_ne]; omega
  clear ha ha'
  go_enter Try.func14, Try.ntmps14
  go_wp2_with fail
  refine (CH.out).mono ?_; rintro e w' ⟨rfl, rfl⟩
  rw [errOf_zero]
  go_wp2_with fail
  refine bodyPost_ret (v := .tuple #[.slice none 0 0, errOf 3]) (by simp [results, Try.results14, go_sem, errOf]) rfl ⟨rfl, Kp.rfl' _⟩

set_option maxHeartbeats 800000 in
theorem Mul_ok (A A' : Option Addr) (f f' : Nat → Nat → Fp.F) (r q c d d' : Nat) (w : World) (ha : LiesM w A (Mx.matl r q f)) (ha' : LiesM w A' (Mx.matl q c f')) (hr0 : 0 < r) (hr : r ≤ 5) (hq0 : 0 < q) (hq : q ≤ 5) (hc0 : 0 < c) (hc : c ≤ 5) :
    Calls Try.prog 14 #[.slice A r d, .slice A' q d'] w fun e w' => GivesM (Mx.matl r c (Mx.mul q f f')) w e w' := by
  have CH := Lib.hid (checkBoth_any A A' (Mx.matl r q f) (Mx.matl q c f') r q d d' w ha ha' (Mx.len_matl _ _ _) (Mx.len_matl _ _ _))
  unfold mcode2 at CH
  rw [if_pos (Mx.mcode_matl f hr0 hr hq0 hq), Mx.mcode_matl f' hq0 hq hc0 hc] at CH
  have MU := Lib.hid (multiply_any A A' f f' r q c d d' w ha ha' hr0 hr hq0 hq hc0 hc)
  obtain ⟨ad, A0, d0, rfl, hlt0, hc00, _, _⟩ := ha.row hr0
  rw [add_zero'] at hc00
  have e1 : ((q : Int) != (q : Int)) = false := by simp
  clear ha ha'
  go_enter Try.func14, Try.ntmps14
  go_wp2_with fail
  refine (CH.out).mono ?_; rintro e w' ⟨rfl, rfl⟩
  rw [errOf_zero]
  go_wp2_with fail
  refine (MU.out).mono ?_; rintro e w' ⟨g, rfl, hl, hk⟩
  have HL := Lib.hid hl
  have HK := Lib.hid hk
  clear hl hk
  go_wp2_with fail
  refine bodyPost_ret (v := .tuple #[.slice (some ⟨g, 0, none⟩) r r, .nilIface]) (by simp [results, Try.results14, go_sem]) rfl ⟨some ⟨g, 0, none⟩, r, by rw [Mx.len_matl], by rw [Mx.len_matl]; exact Nat.le_refl _, HL.out, HK.out⟩



end Go.Proofs.Ytbmkkcpdlakgbaa
