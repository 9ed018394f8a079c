/- What det says of whatever comes in; its closed fact. -/
import Derived.Test.YtldkamhknaflbaaDeC3
import Derived.Test.YtldkamhknaflbaaShM
namespace Go.Proofs.Ytldkamhknaflbaa
open Go.ChangeShapes Go.WideShapes Go.ChangeAt Go.RowKit
set_option linter.unusedVariables false

theorem sq_or (m : List (List Int)) {n : Nat} (hn : m.length = n) : (∃ f, Sh n n f m) ∨ qcode 5 0 9972 m ≠ 0 := by
  by_cases h : qcode 5 0 9972 m = 0
  · obtain ⟨h1, h2⟩ := qcode_zero h
    obtain ⟨r, c, f, e, r0, r5, c0, c5⟩ := Mx.mcode_zero h1
    have hr : r = n := by rw [← hn, e, Mx.len_matl]
    have hc : c = n := by
      rw [e, Mx.len_matl] at h2
      rw [← hr, h2]
      exact (Mx.tab_len r c _ 0 r0).symm
    subst hr hc
    exact .inl ⟨f, e, r0, r5, c0, c5⟩
  · exact .inr h
theorem Sh.code2 {n : Nat} {f : Nat → Nat → Fp.F} {m : List (List Int)} (h : Sh n n f m) : qcode 5 0 9972 m = 0 := by
  rw [h.eq]; exact qcode_matl f h.r0 h.r5

theorem Of_or (A : Option Addr) (m : List (List Int)) (n d : Nat) (hn : m.length = n) :
    (∃ f, Sh n n f m) ∨ ∀ (w : World), LiesM w A m → Calls Try.prog 8 #[.slice A n d] w fun e w' => ∃ z : Nat, e = .returned (.tuple #[.int .i64 0, .iface 56 (.int .i64 (z : Int))]) ∧ Kp w w' := by
  rcases sq_or m hn with h | h
  · exact .inl h
  · exact .inr fun w ha => ((Of_bad A m n d w ha hn h).mono fun e w' h' => ⟨qcode 5 0 9972 m, by rw [h'.1, errOf_ne _ h], h'.2⟩)
theorem Of_sh {A : Option Addr} {m : List (List Int)} {n : Nat} {f : Nat → Nat → Fp.F} (s : Sh n n f m) (d : Nat) (w : World) (ha : LiesM w A m) :
    Calls Try.prog 8 #[.slice A n d] w fun e w' => e = .returned (.tuple #[.int .i64 ((Mx.dt n f).val : Int), .nilIface]) ∧ Kp w w' := by
  rw [s.eq] at ha
  exact Of_ok A f n d w ha s.r0 s.r5

def fdet : Nat → Nat → Fp.F := f22 1 2 3 4
theorem fdet_mat : Mx.tab 2 2 (n22 1 2 3 4) = Mx.matl 2 2 fdet := by decide +kernel
theorem fdet_val : ((Mx.dt 2 fdet).val : Int) = 9971 := by decide +kernel
theorem sp_10 : Mx.sp 2 (fun i => [(1 : Int), 0].getD i 0) = -1 := by decide +kernel
theorem sp_11 : Mx.sp 2 (fun i => [(1 : Int), 1].getD i 0) = 0 := by decide +kernel


end Go.Proofs.Ytldkamhknaflbaa
