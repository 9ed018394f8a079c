/- Package sturm in the laws' words: what is counted, as the document's chain tells it; the closed fact. -/
import Derived.Test.YtbdpcpodmmhjaaaSuC5
import Derived.Test.YtbdpcpodmmhjaaaStM
namespace Go.Proofs.Ytbdpcpodmmhjaaa
open Go.ChangeShapes Go.WideShapes Go.ChangeAt Go.RowKit
set_option linter.unusedVariables false

/-- Turns of the document's chain at a whole number. -/
def dv (L : List Int) (x : Int) : Int := (Stu.vs (Stu.chain L) (x : Rat) : Int)
theorem Whl.told {n : Nat} {L : List Int} (s : Whl n L) {x y : Int} (h : x ≤ y) : (Stu.va (Stu.pch L) x : Int) - (Stu.va (Stu.pch L) y : Int) = dv L x - dv L y := by
  by_cases h1 : L.length = 1
  · unfold dv
    rw [(Stu.sturm_one h1 s.tp).1, (Stu.sturm_one h1 s.tp).1]
    have e : Stu.pch L = [L] := by
      unfold Stu.pch
      rw [if_pos (List.eq_nil_of_length_eq_zero (by rw [Stu.slp_len]; omega))]
    have z : ∀ s : Int, Stu.tr 0 [s] = 0 := fun s => by have := Stu.tr_zero [s]; simpa using this
    rw [e]
    unfold Stu.va
    rw [List.map_cons, List.map_nil, List.map_cons, List.map_nil, z, z]
  · exact Stu.count_told (by have := s.len; have := s.n0; omega) (by have := s.len; have := s.n4; omega) s.tp h
theorem Whl.len4 {n : Nat} {L : List Int} (s : Whl n L) : L.length ≤ 4 := by have := s.len; have := s.n4; omega
theorem Whl.sturm {n : Nat} {L : List Int} (s : Whl n L) : Stu.Sturm L := Stu.sturm_of s.ne s.len4 s.tp
theorem UCount_told (A : Option Addr) (L : List Int) (n c : Nat) (x y : Int) (w : World) (ha : Lies w A L) (s : Whl n L) (hc : n ≤ c) (h : -100 ≤ x ∧ x ≤ 100 ∧ x ≤ y ∧ y ≤ 100) :
    Calls Try.prog 13 #[.slice A n c, .int .i64 x, .int .i64 y] w fun e w' => e = .returned (.tuple #[.int .i64 (dv L x - dv L y), .nilIface]) ∧ Kp w w' := by
  have := UCount_ok A L n c x y w ha s hc h
  rw [s.told h.2.2.1] at this
  exact this

theorem whl_m201 : Whl 3 [-2, 0, 1] := ⟨rfl, by decide, by decide, fun z hz => by simp at hz; omega, fun _ => by decide⟩
theorem whl_121 : Whl 3 [1, 2, 1] := ⟨rfl, by decide, by decide, fun z hz => by simp at hz; omega, fun _ => by decide⟩
theorem ends_m201 : Stu.ends (Stu.chain [-2, 0, 1]) = 2 := (Stu.square_ends (-2) 0).1 (by decide)
theorem ends_121 : Stu.ends (Stu.chain [1, 2, 1]) = 1 := (Stu.square_ends 1 2).2 (by decide)
theorem va_m201 : (Stu.va (Stu.pch [-2, 0, 1]) 0 : Int) - (Stu.va (Stu.pch [-2, 0, 1]) 2 : Int) = 1 := by decide +kernel
set_option maxRecDepth 100000 in
set_option maxHeartbeats 1600000 in
theorem sturmFact_any (w : World) : Calls Try.prog 8 #[] w fun e w' => e = .returned (.bool true) ∧ Kp w w' := by
  have R1 := Lib.hid (fun (w1 : World) (A : Option Addr) (h1 : Lies w1 A [-2, 0, 1]) => UAll_ok A [-2, 0, 1] 3 3 w1 h1 whl_m201 (by decide))
  have R2 := Lib.hid (fun (w1 : World) (A : Option Addr) (h1 : Lies w1 A [-2, 0, 1]) => UCount_ok A [-2, 0, 1] 3 3 0 2 w1 h1 whl_m201 (by decide) (by decide))
  have R3 := Lib.hid (fun (w1 : World) (A : Option Addr) (h1 : Lies w1 A [1, 2, 1]) => UAll_ok A [1, 2, 1] 3 3 w1 h1 whl_121 (by decide))
  rw [ends_m201] at R1
  rw [va_m201] at R2
  rw [ends_121] at R3
  go_enter Try.func8, Try.ntmps8
  go_wp2_with fail
  refine (R1.out _ _ (lies_new w _ [-2, 0, 1])).mono ?_; rintro e w1 ⟨rfl, k1⟩
  have K1 := Lib.hid (((Kp.rfl' w).new _).trans k1)
  clear k1
  go_wp2_with fail
  refine (R2.out _ _ (lies_new w1 _ [-2, 0, 1])).mono ?_; rintro e w2 ⟨rfl, k2⟩
  have K2 := Lib.hid ((K1.out.new _).trans k2)
  clear k2
  go_wp2_with fail
  refine (R3.out _ _ (lies_new w2 _ [1, 2, 1])).mono ?_; rintro e w3 ⟨rfl, k3⟩
  have K3 := Lib.hid ((K2.out.new _).trans k3)
  clear k3
  go_wp2_with fail
  go_ret
  exact ⟨rfl, K3.out⟩

end Go.Proofs.Ytbdpcpodmmhjaaa
