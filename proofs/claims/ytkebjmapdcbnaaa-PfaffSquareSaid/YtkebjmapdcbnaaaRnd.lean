/- The body of a range over a function: a region that draws its order and ends in one store; and the iterator 'places' of package mat. -/
import Derived.RangeFuncNested
import Derived.RangeFuncBound
import Derived.RangeFuncCalls
import Derived.RangeFuncLeaves
import Derived.Shelf.Abstract
import Derived.WalkKit
import Derived.OwnWalkIn
import Derived.TacticsInMore
import Derived.LoopNIn
import Derived.LoopIn
import Derived.OrdersIn
import Derived.StillTailTactics
import Derived.Test.YtkebjmapdcbnaaaGrid
namespace Go.Proofs.Ytkebjmapdcbnaaa
open Go.ChangeShapes Go.WideShapes Go.ChangeAt Go.RowKit Go.Shelf
set_option linter.unusedVariables false

/-- An operation that goes on, and nothing else. -/
def OnlyOn (Q : Exit → Act → World → Prop) : Exit → Act → World → Prop := fun e a w => e = .normal ∧ Q .normal a w

theorem oper_in {l n : Nat} {P : Program} {o : Oper} {a : Act} {w : World} {K K' : Act → World → Prop} {Q Q' : Exit → Act → World → Prop} (hd : ∀ c, o.op ≠ .defer c)
    (hK : ∀ a w, K a w → K' a w) (h : o.wp P a w K (OnlyOn Q)) : o.wpIn (Fence.wide.inRound l) n P a w K' Q' := by
  unfold Oper.wp at h
  unfold Oper.wpIn
  refine ⟨fun _ _ => trivial, ?_⟩
  rw [Oper.semAt_eq _ _ _ hd]
  generalize (execOp a.eval o).run P w = r at *
  cases r with
  | ok x w' =>
    cases x <;> simp only [Oper.upon, Oper.uponIn] at h ⊢
    case value => exact hK _ _ h
    case skip => exact hK _ _ h
    case defer => exact hK _ _ h
    case enter f args =>
      refine ⟨fun e => (by cases e), CallsIn.inRound l ((callsIn_wide (n := n - 1)).2 (h.mono fun e w2 he => ?_))⟩
      cases e with
      | returned v => exact hK _ _ he
      | panicked c => exact absurd he.1 (by simp)
      | outgrown => obtain ⟨_, _, h', _⟩ := he; cases h'
    case row s args =>
      refine ⟨fun e => (by cases e), fun c cs _ => ?_⟩
      obtain ⟨v, w2, h1, h2⟩ := h c cs
      exact ⟨v, w2, hK _ _ h1, stepsIn_wide.2 h2⟩
  | halt x w' =>
    cases x <;> simp only [Oper.upon, Oper.uponIn] at h ⊢
    exact absurd h.1 (by simp)

def noDefer (ops : List Oper) : Bool := ops.all fun o => match o.op with | .defer _ => false | _ => true
theorem noDefer_at {ops : List Oper} (h : noDefer ops = true) {i : Nat} {o : Oper} (hi : ops.toArray[i]? = some o) : ∀ c, o.op ≠ .defer c := fun c e => by
  have hm : o ∈ ops := by
    have : ops[i]? = some o := by simpa using hi
    exact List.mem_of_getElem? this
  have := List.all_eq_true.1 h o hm
  rw [e] at this
  cases this

theorem any_in {l n : Nat} {P : Program} {md : Region.Mode} {ops : List Oper} {Q : Exit → Act → World → Prop} (hd : noDefer ops = true) :
    ∀ (f : Nat) (listed : Array Bool) (a : Act) (w : World), wpAny P md ops.toArray (OnlyOn Q) f listed a w → wpAnyIn (Fence.wide.inRound l) n P md ops.toArray Q f listed a w
  | 0, _, _, _, h => ⟨h.1, h.2.2⟩
  | f + 1, listed, a, w, h => by
    refine ⟨fun h0 => (h.1 h0).2, fun i hi => ?_⟩
    have h2 := h.2 i hi
    unfold wpOp at h2
    unfold wpOpIn
    split
    · rename_i ho; simp only [ho] at h2; exact any_in hd f _ _ _ h2
    · rename_i o ho
      simp only [ho] at h2
      split
      · rename_i hw
        simp only [hw, if_true] at h2
        rcases h2 with h2 | ⟨_, _, _, h3, _⟩
        · exact oper_in (noDefer_at hd ho) (fun a w => any_in hd f _ a w) h2
        · cases h3
      · rename_i hw
        simp only [hw] at h2
        exact ⟨fun _ _ => trivial, any_in hd f _ _ _ h2⟩

/-- In a round: a region that draws its order and whose first k operations only read, the rest one behind the other. -/
theorem region_tail {l n : Nat} {P : Program} {id : Nat} {Q : Exit → Act → World → Prop} {a : Act} {w : World} {ops : List Oper} (k : Nat) (hm : P.follows .mixedOrders = true) (hd : noDefer ops = true)
    (hB : Region.lexTailB .any ops.toArray k = true) (h : wpStill P ops.toArray w.drew (fun a' => wpList P ops.toArray (OnlyOn Q) (ops.drop k) a' w.drew) (ops.take k) a) :
    (Code.region id ops.toArray true).wpIn (Fence.wide.inRound l) n P Q a w := by
  refine wpIn_region_any hm (any_in hd _ _ _ _ ?_)
  simp only [Region.lexTailB, Bool.and_eq_true, decide_eq_true_eq] at hB
  obtain ⟨⟨⟨⟨b1, b2⟩, b3⟩, b4⟩, b5⟩ := hB
  have hk : k < ops.length := by simpa using b2
  have ht : (ops.take k).length = k := by rw [List.length_take]; omega
  have he : (ops.drop k).length = ops.toArray.size - k := by simp
  have start : HeadInv .any ops.toArray k (Array.replicate ops.toArray.size false) :=
    { size := by simp
      closed := fun j oj _ hl => by rw [getD_replicate_false] at hl; cases hl
      tail := fun t _ hlt => getD_in (by simpa using hlt) (getD_replicate_false _ _) }
  have first := wpAnyL_lex (md := .any) (g := ops.toArray.size - k) b1 b3 b4 b2 (ops.take k) 0 _ a
    (fun j hj => by
      rw [ht] at hj
      simp [hj]) (by rw [ht, Nat.zero_add]) start (by rw [ht]; exact b5) h
  have all := wpAny_of_head (Q' := OnlyOn Q) (g := ops.toArray.size - k)
    (fun listed a' hL => by
      have s := wpAny_of_seq (md := .any) (Q' := OnlyOn Q) (ops.drop k) k listed a' w.drew (fun j => by simp [List.getElem?_drop]) (by rw [he]; exact hL.1) hL.2
      rw [he] at s
      exact s) _ _ _ first
  rw [ht, Nat.add_sub_cancel' (Nat.le_of_lt b2)] at all
  exact all

attribute [local go_sem] Oper.semAt_some

/-- Row and column of place k. -/
def rowOf (r c : Nat) (k : Nat) : Nat := k / c % r
def colOf (c : Nat) (k : Nat) : Nat := k % c
theorem rowOf_lt {r c : Nat} (k : Nat) (h : 0 < r) : rowOf r c k < r := Nat.mod_lt _ h
theorem colOf_lt {c : Nat} (k : Nat) (h : 0 < c) : colOf c k < c := Nat.mod_lt _ h
def placeOf (r c : Nat) (k : Nat) : Array Value := #[.int .i64 ((rowOf r c k : Nat) : Int), .int .i64 ((colOf c k : Nat) : Int)]
theorem placeOf_at {r c i j : Nat} (hi : i < r) (hj : j < c) : placeOf r c (i * c + j) = #[.int .i64 (i : Int), .int .i64 (j : Int)] := by
  have hc : 0 < c := by omega
  have e1 : rowOf r c (i * c + j) = i := by unfold rowOf; rw [Nat.mul_comm, Nat.mul_add_div hc, Nat.div_eq_of_lt hj, Nat.add_zero, Nat.mod_eq_of_lt hi]
  have e2 : colOf c (i * c + j) = j := by unfold colOf; rw [Nat.mul_comm, Nat.mul_add_mod, Nat.mod_eq_of_lt hj]
  unfold placeOf
  rw [e1, e2]


end Go.Proofs.Ytkebjmapdcbnaaa
