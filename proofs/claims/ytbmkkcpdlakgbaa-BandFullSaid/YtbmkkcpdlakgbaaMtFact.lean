/- The closed fact of package mat, outright; and what its functions say of whatever comes in. -/
import Derived.Test.YtbmkkcpdlakgbaaMtPow
import Derived.Test.YtbmkkcpdlakgbaaShM
namespace Go.Proofs.Ytbmkkcpdlakgbaa
open Go.ChangeShapes Go.WideShapes Go.ChangeAt Go.RowKit
set_option linter.unusedVariables false

theorem fa1 : Mx.tab 2 2 (n22 1 2 3 4) = Mx.matl 2 2 (f22 1 2 3 4) := by decide +kernel
theorem fa2 : Mx.tab 2 2 (n22 0 1 1 0) = Mx.matl 2 2 (f22 0 1 1 0) := by decide +kernel
theorem fa3 : Mx.tab 2 2 (n22 1 1 0 1) = Mx.matl 2 2 (f22 1 1 0 1) := by decide +kernel
theorem fa4 : Mx.matl 2 2 (Mx.mul 2 (f22 1 2 3 4) (f22 0 1 1 0)) = Mx.tab 2 2 (n22 2 1 4 3) := by decide +kernel
theorem fa5 : Mx.matl 2 2 (Mx.pwm 2 (f22 1 1 0 1) 7) = Mx.tab 2 2 (n22 1 7 0 1) := by decide +kernel


/-- A call that answers an error and nothing else. -/
def FailsAny (w : World) (e : Ending) (w' : World) : Prop := ∃ z : Nat, e = .returned (.tuple #[.slice none 0 0, .iface 54 (.int .i64 (z : Int))]) ∧ Kp w w'
theorem FailsM.any {c : Nat} {w w' : World} {e : Ending} (h : FailsM c w e w') (hc : c ≠ 0) : FailsAny w e w' := ⟨c, by rw [h.1, errOf_ne c hc], h.2⟩

/-- A call that answers a matrix. -/
def Got (r c : Nat) (f : Nat → Nat → Fp.F) (w : World) (e : Ending) (w' : World) : Prop := ∃ A d, e = .returned (.tuple #[.slice A r d, .nilIface]) ∧ LiesM w' A (Mx.matl r c f) ∧ Kp w w'
theorem GivesM.got {r c : Nat} {f : Nat → Nat → Fp.F} {w w' : World} {e : Ending} (h : GivesM (Mx.matl r c f) w e w') : Got r c f w e w' := by
  obtain ⟨A, d, he, _, hl, hk⟩ := h
  rw [Mx.len_matl] at he
  exact ⟨A, d, he, hl, hk⟩

theorem Mul_or (A B : Option Addr) (a b : List (List Int)) (n m c d : Nat) (hn : a.length = n) (hm : b.length = m) :
    (∃ r q k f f', Sh r q f a ∧ Sh q k f' b) ∨ ∀ (w : World), LiesM w A a → LiesM w B b → Calls Try.prog 14 #[.slice A n c, .slice B m d] w fun e w' => FailsAny w e w' := by
  by_cases h : mcode2 a b = 0
  · obtain ⟨h1, h2⟩ := mcode2_zero h
    obtain ⟨r, q, f, e, r0, r5, q0, q5⟩ := Mx.mcode_zero h1
    obtain ⟨q', k, f', e', r0', r5', q0', q5'⟩ := Mx.mcode_zero h2
    by_cases hq : q = q'
    · subst hq
      exact .inl ⟨r, q, k, f, f', ⟨e, r0, r5, q0, q5⟩, ⟨e', r0', r5', q0', q5'⟩⟩
    · right
      subst e e'
      rw [Mx.len_matl] at hn hm
      subst hn hm
      intro w ha hb
      exact (Mul_shape A B f f' r q q' k c d w ha hb r0 r5 q0' q5' q0 q5 r0' r5' hq).mono fun e w' h => h.any (by decide)
  · exact .inr fun w ha hb => ((Mul_bad A B a b n m c d w ha hb hn hm h).mono fun e w' h' => h'.any h)
theorem Mul_sh {A B : Option Addr} {a b : List (List Int)} {r q k : Nat} {f f' : Nat → Nat → Fp.F} (sa : Sh r q f a) (sb : Sh q k f' b) (c d : Nat) (w : World) (ha : LiesM w A a) (hb : LiesM w B b) :
    Calls Try.prog 14 #[.slice A r c, .slice B q d] w fun e w' => Got r k (Mx.mul q f f') w e w' := by
  rw [sa.eq] at ha
  rw [sb.eq] at hb
  exact (Mul_ok A B f f' r q k c d w ha hb sa.r0 sa.r5 sa.c0 sa.c5 sb.c0 sb.c5).mono fun _ _ h => h.got

end Go.Proofs.Ytbmkkcpdlakgbaa
