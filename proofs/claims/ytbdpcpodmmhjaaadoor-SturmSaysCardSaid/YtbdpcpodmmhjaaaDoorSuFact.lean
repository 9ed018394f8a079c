/- Package sturm in the laws' words: what is counted, as the document's chain tells it; the closed fact. -/
import Derived.Test.YtbdpcpodmmhjaaaDoorSuC5
import Derived.Test.YtbdpcpodmmhjaaaDoorStM
namespace Go.Proofs.YtbdpcpodmmhjaaaDoor
open Go.ChangeShapes Go.WideShapes Go.ChangeAt Go.RowKit
set_option linter.unusedVariables false

/-- Turns of the document's chain at a whole number. -/
def dv (L : List Int) (x : Int) : Int := (Stu.vs (Stu.chain L) (x : Rat) : Int)
theorem Whl.told {n : Nat} {L : List Int} (s : Whl n L) {x y : Int} (h : x ≤ y) : (Stu.va (Stu.pch L) x : Int) - (Stu.va (Stu.pch L) y : Int) = dv L x - dv L y := by
  by_cases h1 : L.length = 1
  · unfold dv
    rw [(Stu.sturm_one h1 s.tp).1, (Stu.sturm_one h1 s.tp).1]
    have e : Stu.pch L = [L] := by
      unfold Stu.pch
      rw [if_pos (List.eq_nil_of_length_eq_zero (by rw [Stu.slp_len]; omega))]
    have z : ∀ s : Int, Stu.tr 0 [s] = 0 := fun s => by have := Stu.tr_zero [s]; simpa using this
    rw [e]
    unfold Stu.va
    rw [List.map_cons, List.map_nil, List.map_cons, List.map_nil, z, z]
  · exact Stu.count_told (by have := s.len; have := s.n0; omega) (by have := s.len; have := s.n4; omega) s.tp h
theorem Whl.len4 {n : Nat} {L : List Int} (s : Whl n L) : L.length ≤ 4 := by have := s.len; have := s.n4; omega
theorem Whl.sturm {n : Nat} {L : List Int} (s : Whl n L) : Stu.Sturm L := Stu.sturm_of s.ne s.len4 s.tp
theorem UCount_told (A : Option Addr) (L : List Int) (n c : Nat) (x y : Int) (w : World) (ha : Lies w A L) (s : Whl n L) (hc : n ≤ c) (h : -100 ≤ x ∧ x ≤ 100 ∧ x ≤ y ∧ y ≤ 100) :
    Calls Tryd.prog 16 #[.slice A n c, .int .i64 x, .int .i64 y] w fun e w' => e = .returned (.tuple #[.int .i64 (dv L x - dv L y), .nilIface]) ∧ Kp w w' := by
  have := UCount_ok A L n c x y w ha s hc h
  rw [s.told h.2.2.1] at this
  exact this


end Go.Proofs.YtbdpcpodmmhjaaaDoor
