/- slices.Clone of a row of numbers, for all packages. -/
import Derived.Test.YtkebjmapdcbnaaaRowG
namespace Go.Proofs.Ytkebjmapdcbnaaa
open Go.ChangeShapes Go.WideShapes Go.ChangeAt Go.RowKit
set_option linter.unusedVariables false

theorem sclone_any (A : Option Addr) (l : List Int) (c : Nat) (w : World) (hl : Lies w A l) (hn : l.length ≤ 1000000) :
    Calls Try.prog 24 #[.slice A l.length c] w fun e w' => SomeRow l w e w' := by
  have HL := Lib.hid hl
  have q22 : ∀ (w : World) (a : Option Addr) (n c n' c' : Nat), (binOp .eql 32 (.slice a n c) (.slice none n' c')).run Try.prog w = .ok (.bool a.isNone) w := fun w a n c n' c' => Lib.run_eql_slice_nil w _ _ a n c n' c' Try.underlying32
  rcases A with _ | ad
  · obtain rfl : l = [] := by
      rcases Nat.eq_zero_or_pos l.length with h0 | h0
      · exact List.eq_nil_of_length_eq_zero h0
      · obtain ⟨ad, h, _⟩ := hl 0 h0; cases h
    clear hl
    go_enter Try.func24, Try.ntmps24
    go_wp2_with fail
    go_ret
    exact ⟨_, rfl, Own.none _ _, Kp.rfl' _⟩
  · clear hl
    have hm : Own (w.alloc (.cells #[] 3)) w.heap.size (.slice (some ⟨w.heap.size, 0, none⟩) 0 0) [] := World.ownsRow_made w #[] 0 (Nat.le_refl _) (Nat.zero_le _) rfl
    have HM := Lib.hid hm
    have HK := Lib.hid ((Kp.rfl' w).new (.cells #[] 3))
    clear hm
    go_enter Try.func24, Try.ntmps24
    go_wp2_with (at_builtin; refine wpList_cat rfl _ _ rfl w.heap.size _ [] l (some ad) l.length c rfl rfl rfl HM.out (HL.out.keep HK.out) (by simp; omega) (by simp) ?_; intro v' w' h1 h2 _)
    have HO := Lib.hid h1
    have HK' := Lib.hid (own_below HM.out HK.out (by simp) h2)
    clear h1 h2
    go_wp2_with fail
    go_ret
    exact ⟨v', rfl, HO.out, HK'.out⟩

end Go.Proofs.Ytkebjmapdcbnaaa
