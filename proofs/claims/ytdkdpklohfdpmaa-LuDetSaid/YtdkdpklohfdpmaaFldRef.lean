/- Contracts of the document's answer for package field (package rankmereref1: Mod, Pow, Div), within the document's bounds. -/
import Derived.Test.YtdkdpklohfdpmaaFld
namespace Go.Proofs.Ytdkdpklohfdpmaa
open Go.ChangeShapes Go.WideShapes Go.ChangeAt Go.RowKit
set_option linter.unusedVariables false

theorem refMod_any (n : Int) (w : World) (h1 : -1000000000000000 ≤ n) (h2 : n ≤ 1000000000000000) :
    Calls Try.prog 11 #[.int .i64 n] w fun e w' => e = .returned (.int .i64 (n % 9973)) ∧ w = w' := by
  obtain ⟨f1, f2⟩ := Num.tmod_fix n 9973 (by omega)
  obtain ⟨b2, b1⟩ := Num.tmod_bound n 9973 (by omega)
  have F1 := Lib.hid f1
  have F2 := Lib.hid f2
  clear f1 f2
  by_cases h : n.tmod 9973 < 0
  · go_enter Try.func11, Try.ntmps11
    go_wp2
    go_ret
    exact ⟨ret_int (F1.out h), rfl⟩
  · have h' : 0 ≤ n.tmod 9973 := by omega
    clear h
    go_enter Try.func11, Try.ntmps11
    go_wp2
    go_ret
    exact ⟨ret_int (F2.out h'), rfl⟩

theorem refMod_el (n : Int) (w : World) (h1 : -1000000000000000 ≤ n) (h2 : n ≤ 1000000000000000) :
    Calls Try.prog 11 #[.int .i64 n] w fun e w' => e = .returned (el (Fp.ofInt n)) ∧ w = w' := by
  have h := refMod_any n w h1 h2
  unfold el
  rw [Fp.ofInt_val]
  exact h



end Go.Proofs.Ytdkdpklohfdpmaa
