/- The law CrtSays: the program and the document's answer agree. -/
import Derived.Test.YteiblaajkakmdaaDoorCrtRef
import Derived.Test.YteiblaajkakmdaaDoorErrK
namespace Go.Proofs.YteiblaajkakmdaaDoor
open Go.ChangeShapes Go.WideShapes Go.ChangeAt Go.RowKit
set_option linter.unusedVariables false

/-- Error says yes to the error that is told. -/
theorem error_says (c : Int) (w : World) (hl : Told.Laid w) (hc : 0 ≤ c ∧ c ≤ 100) :
    Calls Tryd.prog 7 #[errOf c, .int .i64 c] w fun e w' => e = .returned (.bool true) ∧ Kp w w' := by
  by_cases h : c = 0
  · subst h; exact errorK_nil 0 w true rfl
  · rw [errOf_ne c h]; exact errorK_hit c c w hl hc true (by simp)

theorem ans_code (rs ms : List Int) (c x s : Int) (h : Ans rs ms c x s) : 0 ≤ c ∧ c ≤ 100 := by
  rcases h with ⟨a, rfl, rfl, rfl⟩ | ⟨a, b, rfl, rfl, rfl⟩ | ⟨a, b, f, rfl, rfl, rfl⟩ | ⟨a, b, f, n, rfl, rfl, rfl⟩ | ⟨a, b, f, n, l, rfl⟩ <;> omega

set_option maxHeartbeats 800000 in
theorem walk_CrtSays (A : Option Addr) (rs : List Int) (ca : Nat) (B : Option Addr) (ms : List Int) (cb : Nat) (w : World) (hl : Told.Laid w) (ha : Lies w A rs) (hb : Lies w B ms) :
    Calls Tryd.prog 3 #[.slice A rs.length ca, .slice B ms.length cb] w fun e w' => e = .returned (.bool true) ∧ Kp w w' := by
  have HL := Lib.hid hl
  have HA := Lib.hid ha
  have HB := Lib.hid hb
  clear hl ha hb
  go_enter Tryd.func3, Tryd.ntmps3
  go_wp2_with fail
  refine (refCrt_any A B rs ms ca cb _ HA.out HB.out).mono ?_; rintro e w1 ⟨⟨c, x, s, h, rfl⟩, hk1⟩
  have K1 := Lib.hid hk1
  clear hk1
  go_wp2_with fail
  refine (solve_any A B rs ms ca cb _ (HA.out.keep K1.out) (HB.out.keep K1.out)).mono ?_; rintro e w2 ⟨⟨c', x', s', h', rfl⟩, hk2⟩
  have K2 := Lib.hid (K1.out.trans hk2)
  obtain ⟨e1, e2, e3⟩ := ans_one rs ms _ _ _ _ _ _ h' h
  subst e1 e2 e3
  have hc := Lib.hid (ans_code rs ms _ _ _ h)
  clear hk2 h h'
  go_wp2_with fail
  refine (error_says c' _ (laid_kp HL.out K2.out) hc.out).mono ?_; rintro e w3 ⟨rfl, hk3⟩
  have K3 := Lib.hid (K2.out.trans hk3)
  clear hk3
  go_wp2_with fail
  go_ret
  exact ⟨rfl, K3.out⟩

end Go.Proofs.YteiblaajkakmdaaDoor
