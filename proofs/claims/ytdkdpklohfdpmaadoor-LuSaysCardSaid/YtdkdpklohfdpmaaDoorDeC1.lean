/- Contracts of package det, first part: ascending, Sign. -/
import Derived.Test.YtdkdpklohfdpmaaDoorDeM
import Derived.Test.YtdkdpklohfdpmaaDoorClone
import Derived.Test.YtdkdpklohfdpmaaDoorGrid
import Derived.Test.YtdkdpklohfdpmaaDoorOwnH
import Derived.StillTailTactics
import Derived.Deep.LoopGhost
namespace Go.Proofs.YtdkdpklohfdpmaaDoor
open Go.ChangeShapes Go.WideShapes Go.ChangeAt Go.RowKit
set_option linter.unusedVariables false


/-- Where the sorting of an order stands: x times the sign of what is left is the order's sign; the first k are at their places. -/
structure Srt (w0 w : World) (g n c : Nat) (S : Fp.F) (k : Nat) (l : List Int) (x : Int) : Prop where
  own : Own w w0.heap.size (.slice (some ⟨g, 0, none⟩) n c) l
  len : l.length = n
  pm : x = 1 ∨ x = -1
  eq : Fp.ofInt x * Mx.sp n (fun i => l.getD i 0) = S
  fix : ∀ t, t < k → l.getD t 0 = (t : Int)
  kp : Kp w0 w
theorem Srt.next {w0 w : World} {g n c : Nat} {S : Fp.F} {k : Nat} {l : List Int} {x : Int} (h : Srt w0 w g n c S k l x) (e : l.getD k 0 = (k : Int)) : Srt w0 w g n c S (k + 1) l x :=
  ⟨h.own, h.len, h.pm, h.eq, fun t ht => by
    by_cases hk : t = k
    · rw [hk]; exact e
    · exact h.fix t (by omega), h.kp⟩
theorem getD_set2 {l : List Int} {k m : Nat} (hk : k < l.length) (hm : m < l.length) (x y : Int) (i : Nat) : ((l.set k x).set m y).getD i 0 = if i = m then y else if i = k then x else l.getD i 0 := by
  rw [List.getD_eq_getElem?_getD, List.getD_eq_getElem?_getD, List.getElem?_set, List.getElem?_set]
  by_cases h1 : i = m
  · rw [if_pos h1.symm, if_pos (by simpa using hm), if_pos h1]; rfl
  · rw [if_neg (fun e => h1 e.symm), if_neg h1]
    by_cases h2 : i = k
    · rw [if_pos h2.symm, if_pos hk, if_pos h2]; rfl
    · rw [if_neg (fun e => h2 e.symm), if_neg h2]
/-- Two numbers change places: the one that stood at place k comes home. -/
theorem Srt.swap {w0 w : World} {g n c : Nat} {S : Fp.F} {k : Nat} {l : List Int} {x : Int} (h : Srt w0 w g n c S k l x) (hk : k < n) {m : Nat} (hm : m < n) (e : l.getD k 0 = (m : Int)) (hne : m ≠ k) (h2 : l.getD m 0 ≠ (m : Int)) (hB : w0.heap.size ≤ g) :
    Srt w0 ((w.setCell ⟨g, k, none⟩ (.int .i64 (l.getD m 0))).setCell ⟨g, m, none⟩ (.int .i64 (m : Int))) g n c S k ((l.set k (l.getD m 0)).set m (m : Int)) (-x) ∧
      Mx.nf n (fun i => ((l.set k (l.getD m 0)).set m (m : Int)).getD i 0) < Mx.nf n fun i => l.getD i 0 := by
  have hg : ∀ i, ((l.set k (l.getD m 0)).set m (m : Int)).getD i 0 = l.getD (Mx.sw k m i) 0 := fun i => by
    rw [getD_set2 (by rw [h.len]; exact hk) (by rw [h.len]; exact hm)]
    by_cases h1 : i = m
    · rw [if_pos h1, h1, Mx.sw_right, e]
    · rw [if_neg h1]
      by_cases h3 : i = k
      · rw [if_pos h3, h3, Mx.sw_left]
      · rw [if_neg h3, Mx.sw_none h3 h1]
  refine ⟨⟨own_put (own_put h.own k _) m _, by rw [List.length_set, List.length_set]; exact h.len, ?_, ?_, fun t ht => ?_, (h.kp.put (p := ⟨g, k, none⟩) hB _).put (p := ⟨g, m, none⟩) hB _⟩, ?_⟩
  · rcases h.pm with a | a <;> rw [a] <;> simp
  · rw [Mx.sp_congr (t := fun i => l.getD (Mx.sw k m i) 0) fun i _ => hg i, Mx.sp_swap (fun i => l.getD i 0) hk hm (fun e => hne e.symm), Mx.ofInt_neg, ← h.eq]; grind
  · have h3 := h.fix t ht
    have : t ≠ m := fun e => by rw [e] at h3; exact h2 h3
    rw [hg, Mx.sw_none (by omega) this]; exact h3
  · refine Mx.nf_lt n (m := m) (fun i hi h3 => ?_) hm h2 ?_
    · have a1 : i ≠ m := fun e => by rw [e] at h3; exact h2 h3
      have a2 : i ≠ k := fun e2 => by rw [e2] at h3; rw [h3] at e; omega
      rw [hg, Mx.sw_none a2 a1]; exact h3
    · rw [hg, Mx.sw_right]; exact e


end Go.Proofs.YtdkdpklohfdpmaaDoor
