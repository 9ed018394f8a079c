/- copy(row, l): a row of noughts just made takes as many numbers of a list as both have. For all packages. -/
import Derived.Test.YtpffekaldpllkaaDoorRowG
namespace Go.Proofs.YtpffekaldpllkaaDoor
open Go.ChangeShapes Go.WideShapes Go.ChangeAt Go.RowKit
set_option linter.unusedVariables false

set_option maxRecDepth 100000 in
theorem copy_part (w1 : World) (g N n c m : Nat) (A : Option Addr) (l : List Int) (ty : TypeId) (hr : Row w1 g (List.replicate N 0)) (hl : Lies w1 A l) (hn : n = l.length) (hm : m = min N n) :
    ∃ w2, (Builtin.copy_ #[22, 22] ty #[.slice (some ⟨g, 0, none⟩) N N, .slice A n c]).run Tryd.prog w1 = .ok (goInt m) w2 ∧
      Row w2 g (l.take m ++ List.replicate (N - m) 0) ∧ ∀ B w0, Below B w0 w1 → B ≤ g → Below B w0 w2 := by
  obtain ⟨i0, hi, hz0, hz1, hz2⟩ := info_parts int_info
  have hsz : (Tryd.prog.info? 3).map (·.size) = some 1 := by rw [hi]; simp [hz1]
  have hmm : Nat.min n N = m := by rw [hm]; exact Nat.min_comm n N
  by_cases h0 : m = 0
  · subst h0
    exact ⟨w1, run_copy_none w1 _ _ ty 3 _ A N N n c Tryd.underlying22 hsz hmm, by simpa using hr, fun _ _ h _ => h⟩
  · obtain ⟨ad, rfl, _, _⟩ := hl 0 (by omega)
    have hlt := hl.take m
    have hl1 : (l.take m).length = m := by rw [List.length_take]; omega
    have hlen : (ints (l.take m)).length = m := by rw [ints, List.length_map, hl1]
    have hrun := run_copy_row (P := Tryd.prog) w1 22 22 ty 3 g 0 N N ad n c _ 3 (ints (l.take m)) Tryd.underlying22 hsz hr (by rw [hlen]; exact hmm.symm)
      (fun j v hj => by
        have hj' : j < (l.take m).length := by
          rcases Nat.lt_or_ge j (l.take m).length with hlt | hge
          · exact hlt
          · rw [List.getElem?_eq_none (by rw [ints, List.length_map]; exact hge)] at hj; cases hj
        obtain ⟨ad', e, _, hc⟩ := hlt j hj'
        obtain rfl := Option.some.inj e
        rw [hc, ← hj]
        rw [ints, List.getElem?_map, List.getD_eq_getElem?_getD, List.getElem?_eq_getElem hj']; rfl) (by rw [hlen]; simp; omega) (fun v hv => by simp only [ints, List.mem_map] at hv; obtain ⟨y, _, rfl⟩ := hv; rfl)
    rw [hlen] at hrun
    refine ⟨_, hrun, ?_, fun B w0 hb hB => below_setRow hb hB _⟩
    unfold Row
    rw [setRow_heap w1 g _ _ 3 (0, 0) hr]
    congr 3
    simp [ints]

end Go.Proofs.YtpffekaldpllkaaDoor
