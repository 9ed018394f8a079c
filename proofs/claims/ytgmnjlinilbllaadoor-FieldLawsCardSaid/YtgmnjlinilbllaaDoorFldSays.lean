/- The walks of the laws of package field that ask an error's number: FieldSays, FieldLaws. -/
import Derived.Test.YtgmnjlinilbllaaDoorFldLaw
import Derived.Test.YtgmnjlinilbllaaDoorErr
namespace Go.Proofs.YtgmnjlinilbllaaDoor
open Go.ChangeShapes Go.WideShapes Go.ChangeAt Go.RowKit
set_option linter.unusedVariables false

set_option maxRecDepth 100000 in
set_option maxHeartbeats 3200000 in
theorem says_abn (a b n s p d q : Int) (w : World) (hl : Told.Laid w) (ba : 0 ≤ a ∧ a ≤ 9972) (bb : 0 ≤ b ∧ b ≤ 9972) (bp : 0 ≤ a * b ∧ a * b ≤ 99440784) (b0 : b ≠ 0)
    (hIA : (decide (0 ≤ a) && decide (a ≤ 9972)) = true)
    (hIB : (decide (0 ≤ b) && decide (b ≤ 9972)) = true)
    (hIN : (decide (0 ≤ n) && decide (n ≤ 1000000)) = true)
    (hRS : ∀ w, Calls Tryd.prog 6 #[.int .i64 (a + b)] w fun e w' => e = .returned (.int .i64 s) ∧ w = w')
    (hRP : ∀ w, Calls Tryd.prog 6 #[.int .i64 (a * b)] w fun e w' => e = .returned (.int .i64 p) ∧ w = w')
    (hHS : ∀ w, Calls Tryd.prog 7 #[.int .i64 a, .int .i64 b] w fun e w' => e = .returned (.tuple #[.int .i64 s, .nilIface]) ∧ w = w')
    (hHP : ∀ w, Calls Tryd.prog 9 #[.int .i64 a, .int .i64 b] w fun e w' => e = .returned (.tuple #[.int .i64 p, .nilIface]) ∧ w = w')
    (hRD : ∀ w, Calls Tryd.prog 10 #[.int .i64 a, .int .i64 b] w fun e w' => e = .returned (.int .i64 d) ∧ w = w')
    (hHD : ∀ w, Calls Tryd.prog 11 #[.int .i64 a, .int .i64 b] w fun e w' => e = .returned (.tuple #[.int .i64 d, .nilIface]) ∧ Drew w w')
    (hRW : ∀ w, Calls Tryd.prog 12 #[.int .i64 a, .int .i64 n] w fun e w' => e = .returned (.int .i64 q) ∧ w = w')
    (hHW : ∀ w, Calls Tryd.prog 13 #[.int .i64 a, .int .i64 n] w fun e w' => e = .returned (.tuple #[.int .i64 q, .nilIface]) ∧ Drew w w') :
    Calls Tryd.prog 3 #[.int .i64 a, .int .i64 b, .int .i64 n] w fun e w' => e = .returned (.bool true) ∧ Grown w w' := by
  have HL := Lib.hid hl
  have IA := Lib.hid hIA
  have IB := Lib.hid hIB
  have IN := Lib.hid hIN
  have RS := Lib.hid hRS
  have RP := Lib.hid hRP
  have HS := Lib.hid hHS
  have HP := Lib.hid hHP
  have RD := Lib.hid hRD
  have HD := Lib.hid hHD
  have RW := Lib.hid hRW
  have HW := Lib.hid hHW
  clear hl hIA hIB hIN hRS hRP hHS hHP hRD hHD hRW hHW
  have b0' := beq_eq_false_iff_ne.2 b0
  go_enter Tryd.func3, Tryd.ntmps3
  go_wp2_with fail
  refine (in_any _ _ _ _ _ IA.out).mono ?_; rintro e w' ⟨rfl, rfl⟩
  go_wp2_with fail
  refine (in_any _ _ _ _ _ IB.out).mono ?_; rintro e w' ⟨rfl, rfl⟩
  go_wp2_with fail
  refine (RS.out _).mono ?_; rintro e w' ⟨rfl, rfl⟩
  go_wp2_with fail
  refine (RP.out _).mono ?_; rintro e w' ⟨rfl, rfl⟩
  go_wp2_with fail
  refine (HS.out _).mono ?_; rintro e w' ⟨rfl, rfl⟩
  go_wp2_with fail
  refine (error_nil 0 _ true rfl).mono ?_; rintro e w' ⟨rfl, g1⟩
  go_wp2_with fail
  refine (HP.out _).mono ?_; rintro e w' ⟨rfl, rfl⟩
  go_wp2_with fail
  refine (error_nil 0 _ true rfl).mono ?_; rintro e w' ⟨rfl, g2⟩
  go_wp2_with fail
  refine (RD.out _).mono ?_; rintro e w' ⟨rfl, rfl⟩
  go_wp2_with fail
  refine (HD.out _).mono ?_; rintro e w' ⟨rfl, hd⟩
  go_wp2_with fail
  refine (error_nil 0 _ true rfl).mono ?_; rintro e w' ⟨rfl, g3⟩
  go_wp2_with fail
  refine (in_any _ _ _ _ _ IA.out).mono ?_; rintro e w' ⟨rfl, rfl⟩
  go_wp2_with fail
  refine (in_any _ _ _ _ _ IN.out).mono ?_; rintro e w' ⟨rfl, rfl⟩
  go_wp2_with fail
  refine (RW.out _).mono ?_; rintro e w' ⟨rfl, rfl⟩
  go_wp2_with fail
  refine (HW.out _).mono ?_; rintro e w' ⟨rfl, hw⟩
  go_wp2_with fail
  refine (error_nil 0 _ true rfl).mono ?_; rintro e w' ⟨rfl, g4⟩
  go_wp2_with fail
  go_ret
  exact ⟨rfl, (grown_trans (grown_trans (grown_trans (grown_trans (grown_trans g1 g2) hd.grown) g3) hw.grown) g4)⟩

set_option maxRecDepth 100000 in
set_option maxHeartbeats 3200000 in
theorem says_ab (a b n s p d : Int) (w : World) (hl : Told.Laid w) (ba : 0 ≤ a ∧ a ≤ 9972) (bb : 0 ≤ b ∧ b ≤ 9972) (bp : 0 ≤ a * b ∧ a * b ≤ 99440784) (b0 : b ≠ 0)
    (hIA : (decide (0 ≤ a) && decide (a ≤ 9972)) = true)
    (hIB : (decide (0 ≤ b) && decide (b ≤ 9972)) = true)
    (hIN : (decide (0 ≤ n) && decide (n ≤ 1000000)) = false)
    (hRS : ∀ w, Calls Tryd.prog 6 #[.int .i64 (a + b)] w fun e w' => e = .returned (.int .i64 s) ∧ w = w')
    (hRP : ∀ w, Calls Tryd.prog 6 #[.int .i64 (a * b)] w fun e w' => e = .returned (.int .i64 p) ∧ w = w')
    (hHS : ∀ w, Calls Tryd.prog 7 #[.int .i64 a, .int .i64 b] w fun e w' => e = .returned (.tuple #[.int .i64 s, .nilIface]) ∧ w = w')
    (hHP : ∀ w, Calls Tryd.prog 9 #[.int .i64 a, .int .i64 b] w fun e w' => e = .returned (.tuple #[.int .i64 p, .nilIface]) ∧ w = w')
    (hRD : ∀ w, Calls Tryd.prog 10 #[.int .i64 a, .int .i64 b] w fun e w' => e = .returned (.int .i64 d) ∧ w = w')
    (hHD : ∀ w, Calls Tryd.prog 11 #[.int .i64 a, .int .i64 b] w fun e w' => e = .returned (.tuple #[.int .i64 d, .nilIface]) ∧ Drew w w')
    (hHW : ∀ w, Calls Tryd.prog 13 #[.int .i64 a, .int .i64 n] w fun e w' => e = .returned (.tuple #[.int .i64 0, errRange]) ∧ w = w') :
    Calls Tryd.prog 3 #[.int .i64 a, .int .i64 b, .int .i64 n] w fun e w' => e = .returned (.bool true) ∧ Grown w w' := by
  have HL := Lib.hid hl
  have IA := Lib.hid hIA
  have IB := Lib.hid hIB
  have IN := Lib.hid hIN
  have RS := Lib.hid hRS
  have RP := Lib.hid hRP
  have HS := Lib.hid hHS
  have HP := Lib.hid hHP
  have RD := Lib.hid hRD
  have HD := Lib.hid hHD
  have HW := Lib.hid hHW
  clear hl hIA hIB hIN hRS hRP hHS hHP hRD hHD hHW
  have b0' := beq_eq_false_iff_ne.2 b0
  go_enter Tryd.func3, Tryd.ntmps3
  go_wp2_with fail
  refine (in_any _ _ _ _ _ IA.out).mono ?_; rintro e w' ⟨rfl, rfl⟩
  go_wp2_with fail
  refine (in_any _ _ _ _ _ IB.out).mono ?_; rintro e w' ⟨rfl, rfl⟩
  go_wp2_with fail
  refine (RS.out _).mono ?_; rintro e w' ⟨rfl, rfl⟩
  go_wp2_with fail
  refine (RP.out _).mono ?_; rintro e w' ⟨rfl, rfl⟩
  go_wp2_with fail
  refine (HS.out _).mono ?_; rintro e w' ⟨rfl, rfl⟩
  go_wp2_with fail
  refine (error_nil 0 _ true rfl).mono ?_; rintro e w' ⟨rfl, g1⟩
  go_wp2_with fail
  refine (HP.out _).mono ?_; rintro e w' ⟨rfl, rfl⟩
  go_wp2_with fail
  refine (error_nil 0 _ true rfl).mono ?_; rintro e w' ⟨rfl, g2⟩
  go_wp2_with fail
  refine (RD.out _).mono ?_; rintro e w' ⟨rfl, rfl⟩
  go_wp2_with fail
  refine (HD.out _).mono ?_; rintro e w' ⟨rfl, hd⟩
  go_wp2_with fail
  refine (error_nil 0 _ true rfl).mono ?_; rintro e w' ⟨rfl, g3⟩
  go_wp2_with fail
  refine (in_any _ _ _ _ _ IA.out).mono ?_; rintro e w' ⟨rfl, rfl⟩
  go_wp2_with fail
  refine (in_any _ _ _ _ _ IN.out).mono ?_; rintro e w' ⟨rfl, rfl⟩
  go_wp2_with fail
  refine (HW.out _).mono ?_; rintro e w' ⟨rfl, rfl⟩
  go_wp2_with fail
  refine (error_hit 1 1 _ (laid_grown HL.out (grown_trans (grown_trans (grown_trans g1 g2) hd.grown) g3)) (by omega) true rfl).mono ?_; rintro e w' ⟨rfl, g4⟩
  go_wp2_with fail
  go_ret
  exact ⟨rfl, (grown_trans (grown_trans (grown_trans (grown_trans g1 g2) hd.grown) g3) g4)⟩

set_option maxRecDepth 100000 in
set_option maxHeartbeats 3200000 in
theorem says_abzn (a n s p q : Int) (w : World) (hl : Told.Laid w) (ba : 0 ≤ a ∧ a ≤ 9972) (bb : 0 ≤ 0 ∧ 0 ≤ 9972) (bp : 0 ≤ a * 0 ∧ a * 0 ≤ 99440784)
    (hIA : (decide (0 ≤ a) && decide (a ≤ 9972)) = true)
    (hIB : (decide (0 ≤ 0) && decide (0 ≤ 9972)) = true)
    (hIN : (decide (0 ≤ n) && decide (n ≤ 1000000)) = true)
    (hRS : ∀ w, Calls Tryd.prog 6 #[.int .i64 a] w fun e w' => e = .returned (.int .i64 s) ∧ w = w')
    (hRP : ∀ w, Calls Tryd.prog 6 #[.int .i64 0] w fun e w' => e = .returned (.int .i64 p) ∧ w = w')
    (hHS : ∀ w, Calls Tryd.prog 7 #[.int .i64 a, .int .i64 0] w fun e w' => e = .returned (.tuple #[.int .i64 s, .nilIface]) ∧ w = w')
    (hHP : ∀ w, Calls Tryd.prog 9 #[.int .i64 a, .int .i64 0] w fun e w' => e = .returned (.tuple #[.int .i64 p, .nilIface]) ∧ w = w')
    (hHD : ∀ w, Calls Tryd.prog 11 #[.int .i64 a, .int .i64 0] w fun e w' => e = .returned (.tuple #[.int .i64 0, errNone]) ∧ w = w')
    (hRW : ∀ w, Calls Tryd.prog 12 #[.int .i64 a, .int .i64 n] w fun e w' => e = .returned (.int .i64 q) ∧ w = w')
    (hHW : ∀ w, Calls Tryd.prog 13 #[.int .i64 a, .int .i64 n] w fun e w' => e = .returned (.tuple #[.int .i64 q, .nilIface]) ∧ Drew w w') :
    Calls Tryd.prog 3 #[.int .i64 a, .int .i64 0, .int .i64 n] w fun e w' => e = .returned (.bool true) ∧ Grown w w' := by
  have HL := Lib.hid hl
  have IA := Lib.hid hIA
  have IB := Lib.hid hIB
  have IN := Lib.hid hIN
  have RS := Lib.hid hRS
  have RP := Lib.hid hRP
  have HS := Lib.hid hHS
  have HP := Lib.hid hHP
  have HD := Lib.hid hHD
  have RW := Lib.hid hRW
  have HW := Lib.hid hHW
  clear hl hIA hIB hIN hRS hRP hHS hHP hHD hRW hHW
  go_enter Tryd.func3, Tryd.ntmps3
  go_wp2_with fail
  refine (in_any _ _ _ _ _ IA.out).mono ?_; rintro e w' ⟨rfl, rfl⟩
  go_wp2_with fail
  refine (in_any _ _ _ _ _ IB.out).mono ?_; rintro e w' ⟨rfl, rfl⟩
  go_wp2_with fail
  refine (RS.out _).mono ?_; rintro e w' ⟨rfl, rfl⟩
  go_wp2_with fail
  refine (RP.out _).mono ?_; rintro e w' ⟨rfl, rfl⟩
  go_wp2_with fail
  refine (HS.out _).mono ?_; rintro e w' ⟨rfl, rfl⟩
  go_wp2_with fail
  refine (error_nil 0 _ true rfl).mono ?_; rintro e w' ⟨rfl, g1⟩
  go_wp2_with fail
  refine (HP.out _).mono ?_; rintro e w' ⟨rfl, rfl⟩
  go_wp2_with fail
  refine (error_nil 0 _ true rfl).mono ?_; rintro e w' ⟨rfl, g2⟩
  go_wp2_with fail
  refine (HD.out _).mono ?_; rintro e w' ⟨rfl, rfl⟩
  go_wp2_with fail
  refine (error_hit 5 5 _ (laid_grown HL.out (grown_trans g1 g2)) (by omega) true rfl).mono ?_; rintro e w' ⟨rfl, g3⟩
  go_wp2_with fail
  refine (in_any _ _ _ _ _ IA.out).mono ?_; rintro e w' ⟨rfl, rfl⟩
  go_wp2_with fail
  refine (in_any _ _ _ _ _ IN.out).mono ?_; rintro e w' ⟨rfl, rfl⟩
  go_wp2_with fail
  refine (RW.out _).mono ?_; rintro e w' ⟨rfl, rfl⟩
  go_wp2_with fail
  refine (HW.out _).mono ?_; rintro e w' ⟨rfl, hw⟩
  go_wp2_with fail
  refine (error_nil 0 _ true rfl).mono ?_; rintro e w' ⟨rfl, g4⟩
  go_wp2_with fail
  go_ret
  exact ⟨rfl, (grown_trans (grown_trans (grown_trans (grown_trans g1 g2) g3) hw.grown) g4)⟩

set_option maxRecDepth 100000 in
set_option maxHeartbeats 3200000 in
theorem says_abz (a n s p : Int) (w : World) (hl : Told.Laid w) (ba : 0 ≤ a ∧ a ≤ 9972) (bb : 0 ≤ 0 ∧ 0 ≤ 9972) (bp : 0 ≤ a * 0 ∧ a * 0 ≤ 99440784)
    (hIA : (decide (0 ≤ a) && decide (a ≤ 9972)) = true)
    (hIB : (decide (0 ≤ 0) && decide (0 ≤ 9972)) = true)
    (hIN : (decide (0 ≤ n) && decide (n ≤ 1000000)) = false)
    (hRS : ∀ w, Calls Tryd.prog 6 #[.int .i64 a] w fun e w' => e = .returned (.int .i64 s) ∧ w = w')
    (hRP : ∀ w, Calls Tryd.prog 6 #[.int .i64 0] w fun e w' => e = .returned (.int .i64 p) ∧ w = w')
    (hHS : ∀ w, Calls Tryd.prog 7 #[.int .i64 a, .int .i64 0] w fun e w' => e = .returned (.tuple #[.int .i64 s, .nilIface]) ∧ w = w')
    (hHP : ∀ w, Calls Tryd.prog 9 #[.int .i64 a, .int .i64 0] w fun e w' => e = .returned (.tuple #[.int .i64 p, .nilIface]) ∧ w = w')
    (hHD : ∀ w, Calls Tryd.prog 11 #[.int .i64 a, .int .i64 0] w fun e w' => e = .returned (.tuple #[.int .i64 0, errNone]) ∧ w = w')
    (hHW : ∀ w, Calls Tryd.prog 13 #[.int .i64 a, .int .i64 n] w fun e w' => e = .returned (.tuple #[.int .i64 0, errRange]) ∧ w = w') :
    Calls Tryd.prog 3 #[.int .i64 a, .int .i64 0, .int .i64 n] w fun e w' => e = .returned (.bool true) ∧ Grown w w' := by
  have HL := Lib.hid hl
  have IA := Lib.hid hIA
  have IB := Lib.hid hIB
  have IN := Lib.hid hIN
  have RS := Lib.hid hRS
  have RP := Lib.hid hRP
  have HS := Lib.hid hHS
  have HP := Lib.hid hHP
  have HD := Lib.hid hHD
  have HW := Lib.hid hHW
  clear hl hIA hIB hIN hRS hRP hHS hHP hHD hHW
  go_enter Tryd.func3, Tryd.ntmps3
  go_wp2_with fail
  refine (in_any _ _ _ _ _ IA.out).mono ?_; rintro e w' ⟨rfl, rfl⟩
  go_wp2_with fail
  refine (in_any _ _ _ _ _ IB.out).mono ?_; rintro e w' ⟨rfl, rfl⟩
  go_wp2_with fail
  refine (RS.out _).mono ?_; rintro e w' ⟨rfl, rfl⟩
  go_wp2_with fail
  refine (RP.out _).mono ?_; rintro e w' ⟨rfl, rfl⟩
  go_wp2_with fail
  refine (HS.out _).mono ?_; rintro e w' ⟨rfl, rfl⟩
  go_wp2_with fail
  refine (error_nil 0 _ true rfl).mono ?_; rintro e w' ⟨rfl, g1⟩
  go_wp2_with fail
  refine (HP.out _).mono ?_; rintro e w' ⟨rfl, rfl⟩
  go_wp2_with fail
  refine (error_nil 0 _ true rfl).mono ?_; rintro e w' ⟨rfl, g2⟩
  go_wp2_with fail
  refine (HD.out _).mono ?_; rintro e w' ⟨rfl, rfl⟩
  go_wp2_with fail
  refine (error_hit 5 5 _ (laid_grown HL.out (grown_trans g1 g2)) (by omega) true rfl).mono ?_; rintro e w' ⟨rfl, g3⟩
  go_wp2_with fail
  refine (in_any _ _ _ _ _ IA.out).mono ?_; rintro e w' ⟨rfl, rfl⟩
  go_wp2_with fail
  refine (in_any _ _ _ _ _ IN.out).mono ?_; rintro e w' ⟨rfl, rfl⟩
  go_wp2_with fail
  refine (HW.out _).mono ?_; rintro e w' ⟨rfl, rfl⟩
  go_wp2_with fail
  refine (error_hit 1 1 _ (laid_grown HL.out (grown_trans (grown_trans g1 g2) g3)) (by omega) true rfl).mono ?_; rintro e w' ⟨rfl, g4⟩
  go_wp2_with fail
  go_ret
  exact ⟨rfl, (grown_trans (grown_trans (grown_trans g1 g2) g3) g4)⟩

set_option maxRecDepth 100000 in
set_option maxHeartbeats 3200000 in
theorem says_ayn (a b n q : Int) (w : World) (hl : Told.Laid w) 
    (hIA : (decide (0 ≤ a) && decide (a ≤ 9972)) = true)
    (hIB : (decide (0 ≤ b) && decide (b ≤ 9972)) = false)
    (hIN : (decide (0 ≤ n) && decide (n ≤ 1000000)) = true)
    (hHS : ∀ w, Calls Tryd.prog 7 #[.int .i64 a, .int .i64 b] w fun e w' => e = .returned (.tuple #[.int .i64 0, errRange]) ∧ w = w')
    (hHP : ∀ w, Calls Tryd.prog 9 #[.int .i64 a, .int .i64 b] w fun e w' => e = .returned (.tuple #[.int .i64 0, errRange]) ∧ w = w')
    (hHD : ∀ w, Calls Tryd.prog 11 #[.int .i64 a, .int .i64 b] w fun e w' => e = .returned (.tuple #[.int .i64 0, errRange]) ∧ w = w')
    (hRW : ∀ w, Calls Tryd.prog 12 #[.int .i64 a, .int .i64 n] w fun e w' => e = .returned (.int .i64 q) ∧ w = w')
    (hHW : ∀ w, Calls Tryd.prog 13 #[.int .i64 a, .int .i64 n] w fun e w' => e = .returned (.tuple #[.int .i64 q, .nilIface]) ∧ Drew w w') :
    Calls Tryd.prog 3 #[.int .i64 a, .int .i64 b, .int .i64 n] w fun e w' => e = .returned (.bool true) ∧ Grown w w' := by
  have HL := Lib.hid hl
  have IA := Lib.hid hIA
  have IB := Lib.hid hIB
  have IN := Lib.hid hIN
  have HS := Lib.hid hHS
  have HP := Lib.hid hHP
  have HD := Lib.hid hHD
  have RW := Lib.hid hRW
  have HW := Lib.hid hHW
  clear hl hIA hIB hIN hHS hHP hHD hRW hHW
  go_enter Tryd.func3, Tryd.ntmps3
  go_wp2_with fail
  refine (in_any _ _ _ _ _ IA.out).mono ?_; rintro e w' ⟨rfl, rfl⟩
  go_wp2_with fail
  refine (in_any _ _ _ _ _ IB.out).mono ?_; rintro e w' ⟨rfl, rfl⟩
  go_wp2_with fail
  refine (HS.out _).mono ?_; rintro e w' ⟨rfl, rfl⟩
  go_wp2_with fail
  refine (error_hit 1 1 _ HL.out (by omega) true rfl).mono ?_; rintro e w' ⟨rfl, g1⟩
  go_wp2_with fail
  refine (HP.out _).mono ?_; rintro e w' ⟨rfl, rfl⟩
  go_wp2_with fail
  refine (error_hit 1 1 _ (laid_grown HL.out g1) (by omega) true rfl).mono ?_; rintro e w' ⟨rfl, g2⟩
  go_wp2_with fail
  refine (HD.out _).mono ?_; rintro e w' ⟨rfl, rfl⟩
  go_wp2_with fail
  refine (error_hit 1 1 _ (laid_grown HL.out (grown_trans g1 g2)) (by omega) true rfl).mono ?_; rintro e w' ⟨rfl, g3⟩
  go_wp2_with fail
  refine (in_any _ _ _ _ _ IA.out).mono ?_; rintro e w' ⟨rfl, rfl⟩
  go_wp2_with fail
  refine (in_any _ _ _ _ _ IN.out).mono ?_; rintro e w' ⟨rfl, rfl⟩
  go_wp2_with fail
  refine (RW.out _).mono ?_; rintro e w' ⟨rfl, rfl⟩
  go_wp2_with fail
  refine (HW.out _).mono ?_; rintro e w' ⟨rfl, hw⟩
  go_wp2_with fail
  refine (error_nil 0 _ true rfl).mono ?_; rintro e w' ⟨rfl, g4⟩
  go_wp2_with fail
  go_ret
  exact ⟨rfl, (grown_trans (grown_trans (grown_trans (grown_trans g1 g2) g3) hw.grown) g4)⟩

set_option maxRecDepth 100000 in
set_option maxHeartbeats 3200000 in
theorem says_ay (a b n : Int) (w : World) (hl : Told.Laid w) 
    (hIA : (decide (0 ≤ a) && decide (a ≤ 9972)) = true)
    (hIB : (decide (0 ≤ b) && decide (b ≤ 9972)) = false)
    (hIN : (decide (0 ≤ n) && decide (n ≤ 1000000)) = false)
    (hHS : ∀ w, Calls Tryd.prog 7 #[.int .i64 a, .int .i64 b] w fun e w' => e = .returned (.tuple #[.int .i64 0, errRange]) ∧ w = w')
    (hHP : ∀ w, Calls Tryd.prog 9 #[.int .i64 a, .int .i64 b] w fun e w' => e = .returned (.tuple #[.int .i64 0, errRange]) ∧ w = w')
    (hHD : ∀ w, Calls Tryd.prog 11 #[.int .i64 a, .int .i64 b] w fun e w' => e = .returned (.tuple #[.int .i64 0, errRange]) ∧ w = w')
    (hHW : ∀ w, Calls Tryd.prog 13 #[.int .i64 a, .int .i64 n] w fun e w' => e = .returned (.tuple #[.int .i64 0, errRange]) ∧ w = w') :
    Calls Tryd.prog 3 #[.int .i64 a, .int .i64 b, .int .i64 n] w fun e w' => e = .returned (.bool true) ∧ Grown w w' := by
  have HL := Lib.hid hl
  have IA := Lib.hid hIA
  have IB := Lib.hid hIB
  have IN := Lib.hid hIN
  have HS := Lib.hid hHS
  have HP := Lib.hid hHP
  have HD := Lib.hid hHD
  have HW := Lib.hid hHW
  clear hl hIA hIB hIN hHS hHP hHD hHW
  go_enter Tryd.func3, Tryd.ntmps3
  go_wp2_with fail
  refine (in_any _ _ _ _ _ IA.out).mono ?_; rintro e w' ⟨rfl, rfl⟩
  go_wp2_with fail
  refine (in_any _ _ _ _ _ IB.out).mono ?_; rintro e w' ⟨rfl, rfl⟩
  go_wp2_with fail
  refine (HS.out _).mono ?_; rintro e w' ⟨rfl, rfl⟩
  go_wp2_with fail
  refine (error_hit 1 1 _ HL.out (by omega) true rfl).mono ?_; rintro e w' ⟨rfl, g1⟩
  go_wp2_with fail
  refine (HP.out _).mono ?_; rintro e w' ⟨rfl, rfl⟩
  go_wp2_with fail
  refine (error_hit 1 1 _ (laid_grown HL.out g1) (by omega) true rfl).mono ?_; rintro e w' ⟨rfl, g2⟩
  go_wp2_with fail
  refine (HD.out _).mono ?_; rintro e w' ⟨rfl, rfl⟩
  go_wp2_with fail
  refine (error_hit 1 1 _ (laid_grown HL.out (grown_trans g1 g2)) (by omega) true rfl).mono ?_; rintro e w' ⟨rfl, g3⟩
  go_wp2_with fail
  refine (in_any _ _ _ _ _ IA.out).mono ?_; rintro e w' ⟨rfl, rfl⟩
  go_wp2_with fail
  refine (in_any _ _ _ _ _ IN.out).mono ?_; rintro e w' ⟨rfl, rfl⟩
  go_wp2_with fail
  refine (HW.out _).mono ?_; rintro e w' ⟨rfl, rfl⟩
  go_wp2_with fail
  refine (error_hit 1 1 _ (laid_grown HL.out (grown_trans (grown_trans g1 g2) g3)) (by omega) true rfl).mono ?_; rintro e w' ⟨rfl, g4⟩
  go_wp2_with fail
  go_ret
  exact ⟨rfl, (grown_trans (grown_trans (grown_trans g1 g2) g3) g4)⟩

set_option maxRecDepth 100000 in
set_option maxHeartbeats 3200000 in
theorem says_xy (a b n : Int) (w : World) (hl : Told.Laid w) 
    (hIA : (decide (0 ≤ a) && decide (a ≤ 9972)) = false)
    (hHS : ∀ w, Calls Tryd.prog 7 #[.int .i64 a, .int .i64 b] w fun e w' => e = .returned (.tuple #[.int .i64 0, errRange]) ∧ w = w')
    (hHP : ∀ w, Calls Tryd.prog 9 #[.int .i64 a, .int .i64 b] w fun e w' => e = .returned (.tuple #[.int .i64 0, errRange]) ∧ w = w')
    (hHD : ∀ w, Calls Tryd.prog 11 #[.int .i64 a, .int .i64 b] w fun e w' => e = .returned (.tuple #[.int .i64 0, errRange]) ∧ w = w')
    (hHW : ∀ w, Calls Tryd.prog 13 #[.int .i64 a, .int .i64 n] w fun e w' => e = .returned (.tuple #[.int .i64 0, errRange]) ∧ w = w') :
    Calls Tryd.prog 3 #[.int .i64 a, .int .i64 b, .int .i64 n] w fun e w' => e = .returned (.bool true) ∧ Grown w w' := by
  have HL := Lib.hid hl
  have IA := Lib.hid hIA
  have HS := Lib.hid hHS
  have HP := Lib.hid hHP
  have HD := Lib.hid hHD
  have HW := Lib.hid hHW
  clear hl hIA hHS hHP hHD hHW
  go_enter Tryd.func3, Tryd.ntmps3
  go_wp2_with fail
  refine (in_any _ _ _ _ _ IA.out).mono ?_; rintro e w' ⟨rfl, rfl⟩
  go_wp2_with fail
  refine (HS.out _).mono ?_; rintro e w' ⟨rfl, rfl⟩
  go_wp2_with fail
  refine (error_hit 1 1 _ HL.out (by omega) true rfl).mono ?_; rintro e w' ⟨rfl, g1⟩
  go_wp2_with fail
  refine (HP.out _).mono ?_; rintro e w' ⟨rfl, rfl⟩
  go_wp2_with fail
  refine (error_hit 1 1 _ (laid_grown HL.out g1) (by omega) true rfl).mono ?_; rintro e w' ⟨rfl, g2⟩
  go_wp2_with fail
  refine (HD.out _).mono ?_; rintro e w' ⟨rfl, rfl⟩
  go_wp2_with fail
  refine (error_hit 1 1 _ (laid_grown HL.out (grown_trans g1 g2)) (by omega) true rfl).mono ?_; rintro e w' ⟨rfl, g3⟩
  go_wp2_with fail
  refine (in_any _ _ _ _ _ IA.out).mono ?_; rintro e w' ⟨rfl, rfl⟩
  go_wp2_with fail
  refine (HW.out _).mono ?_; rintro e w' ⟨rfl, rfl⟩
  go_wp2_with fail
  refine (error_hit 1 1 _ (laid_grown HL.out (grown_trans (grown_trans g1 g2) g3)) (by omega) true rfl).mono ?_; rintro e w' ⟨rfl, g4⟩
  go_wp2_with fail
  go_ret
  exact ⟨rfl, (grown_trans (grown_trans (grown_trans g1 g2) g3) g4)⟩

end Go.Proofs.YtgmnjlinilbllaaDoor
