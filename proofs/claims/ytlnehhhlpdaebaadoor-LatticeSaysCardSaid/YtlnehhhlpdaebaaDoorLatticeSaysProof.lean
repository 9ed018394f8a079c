/- For all arguments, the functions of package lattice return what the document specifies. -/
import Derived.Test.YtlnehhhlpdaebaaDoorCards
import Derived.Test.YtlnehhhlpdaebaaDoorTie
import Derived.Test.YtlnehhhlpdaebaaDoorLtSays
import Derived.ChangeSame
import Derived.ChangeVars
import Derived.ChangeOld
import Derived.JoinedOf
import Derived.RowKit
import Derived.RowKitTokens
import Derived.LaidLaws
import Derived.LaidHandle
import Derived.Stop.Joined
import Derived.SevenTiedAt
import Derived.Lib.SmallJoins
import Derived.ProofKit
import Derived.OpenShut
namespace Go.Proofs.YtlnehhhlpdaebaaDoor.latticeSays
open Go.ChangeShapes Go.WideShapes Go.ChangeAt Go.RowKit Go.Joins
set_option linter.unusedVariables false

theorem own : ownKnob Tryd.prog.godebug = none := by kernel_rfl
theorem laidOut : laidOutB Tryd.prog = true := by kernel_rfl
theorem cellsV : Tryd.prog.cellsOf 23 = 2 := by kernel_rfl
theorem et : Tryd.prog.globalNamed "errors.errorType" = some 0 := by kernel_rfl
theorem rt : (Tryd.prog.cutTypes.find? (·.1 == "internal/reflectlite.rtype")).map (·.2) = some 69 := by kernel_rfl
theorem oneRow : ((List.range 112).filter fun t => Tryd.prog.rowNamed t [101, 114, 114, 111, 114]) = [27] := by kernel_rfl
theorem size : Tryd.prog.types.size = 112 := by kernel_rfl

/-- What the row's list gives a walk: the variable's one cell. -/
theorem laid_of {W : World} (h : laidMetH Tryd.prog Rows.latticeSaysRow.laid W) : Told.Laid W := by
  have h' : laidMet Tryd.prog [] W ∧ handlesMet Tryd.prog Rows.latticeSaysRow.laid W := h
  obtain ⟨name, u, ty, e1, e2, e3, e4, e5⟩ := h'.2 _ (List.mem_singleton.2 rfl)
  have en : name = [101, 114, 114, 111, 114] := (Option.some.inj e1).symm
  subst en
  obtain rfl := Option.some.inj (rt.symm.trans e2)
  have hm : ty ∈ (List.range 112).filter fun t => Tryd.prog.rowNamed t [101, 114, 114, 111, 114] := List.mem_filter.2 ⟨List.mem_range.2 (by rw [← size]; exact e3), e4⟩
  rw [oneRow] at hm
  obtain rfl := List.mem_singleton.1 hm
  have hh : typeHandle Tryd.prog 27 = .pointer (some ⟨1, 27, none⟩) := by kernel_rfl
  rw [hh] at e5
  show W.cell? ⟨0, 0, none⟩ = some (.iface 69 (.agg #[.pointer (some ⟨1, 27, none⟩)]))
  simpa using World.var?_cell et e5 0

/-- A world that meets the list: the settled one, the variable's cell laid. -/
noncomputable def laidWorld (os : Os) : World :=
  let w0 := World.holding Tryd.prog os ⟨#[], #[], []⟩
  { w0 with heap := w0.heap.modify 0 fun
      | .cells _ t frozen => .cells #[.iface 69 (.agg #[.pointer (some ⟨1, 27, none⟩)])] t frozen
      | o => o }
theorem laidWorld_met (os : Os) (args : Array Value) : laidMetH Tryd.prog Rows.latticeSaysRow.laid ((laidWorld os).forCall (fun _ _ => 0) ⟨#[], args, []⟩).memory :=
  laidMetH_of_parts (laidMet_nil _ _) (by kernel_rfl)

set_option maxRecDepth 100000 in
theorem lifted (os : Os) (started : os.Started) (H : Type) (enc : TypeId × Value → H) :
    ReturnsInHanded {} Tryd.checked os 3 .any (fun w args => (Rows.latticeSaysSpec.pre enc Tryd.prog Tryd.f3 [] false w args ∧ laidMetH Tryd.prog Rows.latticeSaysRow.laid w) ∧ sizedMet enc Tryd.prog Tryd.f3 (OpenSpec.ofChange Rows.latticeSaysSpec) false w args)
      (Rows.latticeSaysSpec.post enc Tryd.prog Tryd.f3 false true false false) := by
  refine returnsInHanded_of_change_and (C := Tryd.checked) (X := fun w _ => laidMetH Tryd.prog Rows.latticeSaysRow.laid w) (fun _ _ _ hh h => h.of_heap hh) own started (by kernel_rfl) Tryd.func3
    (ChangeSpec.witness_at (enc := enc) (C := Tryd.checked) (os := os) (X := fun w _ => laidMetH Tryd.prog Rows.latticeSaysRow.laid w) false (laidWorld os) #[.agg #[.int .i64 0, .int .i64 0], .agg #[.int .i64 0, .int .i64 0], .agg #[.int .i64 0, .int .i64 0]] 8 rfl (by kernel_rfl) (by kernel_rfl) (by kernel_rfl) (by kernel_rfl) (by kernel_rfl) (laidWorld_met os _)) ?_
  intro W base args ds gs before hval0 hW _ _ hL _
  have hval : ∀ (j : Nat) t v, Tryd.f3.params[j]? = some t → args[j]? = some v → Value.okWide Tryd.prog W .any base t v := hval0
  have hW' := hW
  obtain ⟨p, q, hA0, hV, rfl, hfz, hnd⟩ := hW
  have hA : DataW.TrodAll enc Tryd.prog W 0 (fun _ => true) true Tryd.f3.params.toList args.toList ds p := hA0
  rw [Tryd.params3] at hA hval
  obtain ⟨v0, vs0, d0, ds0, p0, q0, hargs, rfl, rfl, h0, r0⟩ := trodAll_cons hA
  obtain ⟨v1, vs1, d1, ds1, p1, q1, rfl, rfl, rfl, h1, r1⟩ := trodAll_cons r0
  obtain ⟨v2, vs2, d2, ds2, p2, q2, rfl, rfl, rfl, h2, r2⟩ := trodAll_cons r1
  obtain ⟨rfl, rfl, rfl⟩ := trodAll_nil r2
  obtain rfl : args = #[v0, v1, v2] := by cases args; simp_all
  obtain ⟨rfl, rfl⟩ := trodVars_none hV
  obtain ⟨c0x, c0y, y0x, y0y, m0, rfl, rfl, rfl, hx0, hy0⟩ := open_agg2 Tryd.underlying23 (by kernel_rfl) cellsV (hval 0 23 v0 rfl rfl) h0
  obtain ⟨ax0, ex0, rfl, wx0⟩ := DataW.trod_int Tryd.underlying3 hx0
  obtain ⟨ay0, ey0, rfl, wy0⟩ := DataW.trod_int Tryd.underlying3 hy0
  simp at ex0 ey0
  subst ex0 ey0
  have sr0 : ∀ (W' : World) (B : Nat) (sp : Nat → Bool) (hd : Bool), DataW.Trod enc Tryd.prog W' B sp hd 23 (.agg #[.int .i64 ax0, .int .i64 ay0]) (.agg [.lit (.int .i64 ax0), .lit (.int .i64 ay0)]) [] := fun W' B sp hd =>
    shut_agg2 (y0 := (.lit (.int .i64 ax0), [])) (y1 := (.lit (.int .i64 ay0), [])) Tryd.underlying23 (by kernel_rfl) cellsV ⟨1, by simp [DataW.trod, Tryd.underlying3, wx0]⟩ ⟨1, by simp [DataW.trod, Tryd.underlying3, wy0]⟩
  obtain ⟨c1x, c1y, y1x, y1y, m1, rfl, rfl, rfl, hx1, hy1⟩ := open_agg2 Tryd.underlying23 (by kernel_rfl) cellsV (hval 1 23 v1 rfl rfl) h1
  obtain ⟨ax1, ex1, rfl, wx1⟩ := DataW.trod_int Tryd.underlying3 hx1
  obtain ⟨ay1, ey1, rfl, wy1⟩ := DataW.trod_int Tryd.underlying3 hy1
  simp at ex1 ey1
  subst ex1 ey1
  have sr1 : ∀ (W' : World) (B : Nat) (sp : Nat → Bool) (hd : Bool), DataW.Trod enc Tryd.prog W' B sp hd 23 (.agg #[.int .i64 ax1, .int .i64 ay1]) (.agg [.lit (.int .i64 ax1), .lit (.int .i64 ay1)]) [] := fun W' B sp hd =>
    shut_agg2 (y0 := (.lit (.int .i64 ax1), [])) (y1 := (.lit (.int .i64 ay1), [])) Tryd.underlying23 (by kernel_rfl) cellsV ⟨1, by simp [DataW.trod, Tryd.underlying3, wx1]⟩ ⟨1, by simp [DataW.trod, Tryd.underlying3, wy1]⟩
  obtain ⟨c2x, c2y, y2x, y2y, m2, rfl, rfl, rfl, hx2, hy2⟩ := open_agg2 Tryd.underlying23 (by kernel_rfl) cellsV (hval 2 23 v2 rfl rfl) h2
  obtain ⟨ax2, ex2, rfl, wx2⟩ := DataW.trod_int Tryd.underlying3 hx2
  obtain ⟨ay2, ey2, rfl, wy2⟩ := DataW.trod_int Tryd.underlying3 hy2
  simp at ex2 ey2
  subst ex2 ey2
  have sr2 : ∀ (W' : World) (B : Nat) (sp : Nat → Bool) (hd : Bool), DataW.Trod enc Tryd.prog W' B sp hd 23 (.agg #[.int .i64 ax2, .int .i64 ay2]) (.agg [.lit (.int .i64 ax2), .lit (.int .i64 ay2)]) [] := fun W' B sp hd =>
    shut_agg2 (y0 := (.lit (.int .i64 ax2), [])) (y1 := (.lit (.int .i64 ay2), [])) Tryd.underlying23 (by kernel_rfl) cellsV ⟨1, by simp [DataW.trod, Tryd.underlying3, wx2]⟩ ⟨1, by simp [DataW.trod, Tryd.underlying3, wy2]⟩
  clear hA0 hval0
  refine (walk_LatticeSays _ _ _ _ _ _ W (laid_of hL) ).mono fun e W' ⟨he, bel⟩ => ?_
  subst he
  exact ⟨_, rfl, _, _, _, [], _, [], hW', trodAll_mk1 (shut_bool Tryd.underlying4 _), (trodAll_cons_mk (sr0 _ _ _ _) (trodAll_cons_mk (sr1 _ _ _ _) (trodAll_cons_mk (sr2 _ _ _ _) trodAll_mk0))), rfl, bel.frame _, fun h => by cases h⟩

theorem said : Rows.LatticeSaysSaid :=
  OpenClaim.holds_of_wide 3 Tryd.f3 rfl rfl rfl rfl rfl rfl rfl ⟨rfl, rfl, rfl, rfl, rfl⟩ rfl rfl rfl rfl rfl (by kernel_rfl) Tryd.func3 (by kernel_rfl)
    (of_decide_eq_true (by kernel_rfl)) (by unfold Func.isWrapper; first | (rw [if_pos (by decide +kernel)]; kernel_rfl) | (rw [if_neg (by decide +kernel)]; exact ⟨rfl, rfl⟩))
    (fun os started H enc _ => lifted os started H enc)

/-- No parameter wants a stand-in. -/
theorem plain (f : FuncId) (fn : Func) (hf : Tryd.pinned.checked.prog.funcNamed "rankmere/rankmerelaw4.LatticeSays" = some f) (hfn : Tryd.pinned.checked.prog.funcs[f]? = some fn) :
    true = Tryd.pinned.checked.prog.looks [] ∧ ∀ (j : Nat) t, fn.params[j]? = some t → Tryd.pinned.checked.prog.wantsStandIn t = false := by
  obtain rfl : f = 3 := Option.some.inj ((show Tryd.prog.funcNamed "rankmere/rankmerelaw4.LatticeSays" = some 3 by kernel_rfl).symm.trans hf) |>.symm
  obtain rfl : fn = Tryd.f3 := (Option.some.inj (Tryd.func3.symm.trans hfn)).symm
  refine ⟨by kernel_rfl, fun j t ht => ?_⟩
  rw [Tryd.params3] at ht
  have hm : t ∈ [23] := by
    have := Array.mem_of_getElem? ht
    simp at this ⊢
    first | exact this | (rcases this with h | h <;> simp [h]) | (rcases this with h | h | h <;> simp [h])  | (rcases this with h | h | h | h <;> simp [h])
  have hall : ([23].all fun u => !Tryd.prog.wantsStandIn u) = true := by kernel_rfl
  exact (show Tryd.prog.wantsStandIn t = false by simpa using List.all_eq_true.1 hall t hm)

/-- The statement. -/
theorem proved : Rows.LatticeSaysCardSaid :=
  Claim7.holds_tied_plain_at .later [] _ _ _ _ said (fun _ h => by cases h) (by kernel_rfl) (fun _ h => by cases h) latticeSays_row_tie rfl ⟨rfl, rfl⟩ (by kernel_rfl) rfl plain (by kernel_rfl)
#print axioms proved
end Go.Proofs.YtlnehhhlpdaebaaDoor.latticeSays
