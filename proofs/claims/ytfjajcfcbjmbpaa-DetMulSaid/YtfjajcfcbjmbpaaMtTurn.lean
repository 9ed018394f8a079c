/- A matrix just made in a variable, what a loop over all places keeps, and the ends of functions that hold such a loop; the contract of package mat's Turn. -/
import Derived.Test.YtfjajcfcbjmbpaaMtC1
import Derived.Test.YtfjajcfcbjmbpaaRnd
import Derived.Deep.RegionHeld3
import Derived.Deep.Cut
import Derived.Deep.CutRange
import Derived.Deep.DeepCutAuto
namespace Go.Proofs.Ytfjajcfcbjmbpaa
open Go.ChangeShapes Go.WideShapes Go.ChangeAt Go.RowKit Go.Shelf
set_option linter.unusedVariables false
attribute [local go_sem] Oper.semAt_some

/-- A matrix just made, all of noughts, and the variable that holds it. -/
structure Fresh (w : World) (p : Value) (r c : Nat) (w' : World) : Prop where
  ex : ∃ B g G, p = .pointer (some ⟨B, 0, none⟩) ∧ w'.cell? ⟨B, 0, none⟩ = some (.slice (some ⟨g, 0, none⟩) r r) ∧ Grid w' g G r c (fun _ _ => 0) ∧ w.heap.size ≤ g ∧ w.heap.size ≤ B ∧ Kp w w'

/-- What the call says: an error, or a matrix. -/
def GivesM (m : List (List Int)) (w : World) (e : Ending) (w' : World) : Prop := ∃ A d, e = .returned (.tuple #[.slice A m.length d, .nilIface]) ∧ m.length ≤ d ∧ LiesM w' A m ∧ Kp w w'
def FailsM (c : Nat) (w : World) (e : Ending) (w' : World) : Prop := e = .returned (.tuple #[.slice none 0 0, errOf c]) ∧ Kp w w'

/-- A row of the call's own heads and rows abides what the loop's own book-keeping does. -/
theorem Grid.kept {W W' : World} {row : Option Nat} {g : Nat} {G : Nat → Nat} {r c : Nat} {f : Nat → Nat → Int} (h : Grid W g G r c f) (hg : W.grownBy W' row)
    (hr : ∀ k, row = some k → ∃ o : Obj, W.heap[k]? = some o ∧ o.isCells = false) : Grid W' g G r c f :=
  ⟨(grownBy_keeps_cells hg hr h.head rfl).trans h.head, fun i hi => (grownBy_keeps_cells hg hr (h.row i hi) rfl).trans (h.row i hi), h.after, h.apart⟩
theorem Grid.far {w : World} {g : Nat} {G : Nat → Nat} {r c : Nat} {f : Nat → Nat → Int} (h : Grid w g G r c f) {a : Addr} (h1 : g ≠ a.block) (h2 : ∀ i, i < r → G i ≠ a.block) (u : Value) : Grid (w.setCell a u) g G r c f :=
  ⟨by rw [heap_setCell_other w a g u h1]; exact h.head, fun i hi => (h.row i hi).far (h2 i hi) u, h.after, h.apart⟩
/-- A variable that holds a matrix is no row of one. -/
theorem Grid.ne {w : World} {g : Nat} {G : Nat → Nat} {r c : Nat} {f : Nat → Nat → Int} (h : Grid w g G r c f) (hc : 0 < c) {i : Nat} (hi : i < r) {B : Nat} {A : Option Addr} {n d : Nat}
    (hB : w.cell? ⟨B, 0, none⟩ = some (.slice A n d)) : B ≠ G i := fun e => by
  have := h.el hi hc
  rw [← e, hB] at this
  cases this

theorem fresh_a {w1 w2 : World} {g : Nat} {G : Nat → Nat} {r c : Nat} (hg : Grid w2 g G r c (fun _ _ => 0)) (hk : Kp w1 w2) (hle : w1.heap.size ≤ g) :
    Fresh w1 (.pointer (some ⟨w2.heap.size, 0, none⟩)) r c (w2.alloc (.cells #[.slice (some ⟨g, 0, none⟩) r r] 22)) :=
  ⟨w2.heap.size, g, G, rfl, by simp, hg.new _, hle, hk.size, hk.new _⟩
theorem fresh_b {w1 w2 : World} {G : Nat → Nat} {r c : Nat} (hg : Grid w2 (w1.heap.size + 1) G r c (fun _ _ => 0)) (hk : Kp w1 w2) (hb : w2.cell? ⟨w1.heap.size, 0, none⟩ = some (.slice none 0 0)) :
    Fresh w1 (.pointer (some ⟨w1.heap.size, 0, none⟩)) r c (w2.setCell ⟨w1.heap.size, 0, none⟩ (.slice (some ⟨w1.heap.size + 1, 0, none⟩) r r)) :=
  ⟨w1.heap.size, w1.heap.size + 1, G, rfl, World.cell?_setCell_same' _ _ _ (by rw [hb]; rfl), hg.far (by show w1.heap.size + 1 ≠ w1.heap.size; omega) (fun i hi => by show G i ≠ w1.heap.size; have := hg.after i hi; omega) _,
    by omega, Nat.le_refl _, hk.put (Nat.le_refl _) _⟩

theorem zero_box (r c : Nat) (w : World) (hr : r ≤ 1000) (hc : c ≤ 1000) :
    Calls Try.prog 25 #[.int .i64 (r : Int), .int .i64 (c : Int)] (w.alloc (.cells #[.slice none 0 0] 22)).drew fun e w' =>
      ∃ G, e = .returned (.slice (some ⟨w.heap.size + 1, 0, none⟩) r r) ∧ Grid w' (w.heap.size + 1) G r c (fun _ _ => 0) ∧ Kp (w.alloc (.cells #[.slice none 0 0] 22)).drew w' ∧
        w'.cell? ⟨w.heap.size, 0, none⟩ = some (.slice none 0 0) ∧ w'.frozen? ⟨w.heap.size, 0, none⟩ = false :=
  (zero_any r c _ hr hc).mono fun e w2 ⟨G, he, hg, hk⟩ => by
    have hsz : (w.alloc (.cells #[.slice none 0 0] 22)).drew.heap.size = w.heap.size + 1 := by simp [World.drew]
    have hlt : w.heap.size < (w.alloc (.cells #[.slice none 0 0] 22)).drew.heap.size := by rw [hsz]; exact Nat.lt_succ_self _
    rw [hsz] at he hg
    refine ⟨G, he, hg, hk, (hk.cell (p := ⟨w.heap.size, 0, none⟩) hlt).trans ?_, (hk.frozen (p := ⟨w.heap.size, 0, none⟩) hlt).trans ?_⟩
    · simp
    · simp

set_option maxRecDepth 100000 in
set_option maxHeartbeats 1600000 in
theorem Turn_ok (A : Option Addr) (f : Nat → Nat → Fp.F) (r c d : Nat) (w : World) (ha : LiesM w A (Mx.matl r c f)) (hr0 : 0 < r) (hr : r ≤ 5) (hc0 : 0 < c) (hc : c ≤ 5) :
    Calls Try.prog 10 #[.slice A r d] w fun e w' => GivesM (Mx.matl c r (Mx.flip f)) w e w' := by
  have CH := Lib.hid (fun w' (h : Kp w w') => Check_any A (Mx.matl r c f) r d w' (ha.keep h) (Mx.len_matl r c f))
  rw [Mx.mcode_matl f hr0 hr hc0 hc] at CH
  obtain ⟨ad, A0, d0, rfl, hlt0, hc00, _, hr00⟩ := ha.row hr0
  rw [add_zero'] at hc00
  have HA := Lib.hid ha
  clear ha hr00
  refine callsIn_wide.1 (callsIn_of_wp_marks (F := Fence.wide) (n := 9) Try.func10 rfl trivial ?_ rfl)
  simp only [Try.ntmps10, List.size_toArray, List.length_cons, List.length_nil, Nat.reduceAdd, Nat.reduceSub, Array.replicate_succ, Array.replicate_zero, List.push_toArray, List.append_toArray, List.nil_append, List.cons_append]
  refine wpIn_wide.2 ?_
  go_wp2_with fail
  obtain ⟨w1, hw1⟩ : ∃ x, x = w.alloc (.cells #[.slice (some ad) r d] 22) := ⟨_, rfl⟩
  have k1 : Kp w w1 := by rw [hw1]; exact (Kp.rfl' w).new _
  have b1 : w1.cell? ⟨w.heap.size, 0, none⟩ = some (.slice (some ad) r d) := by rw [hw1]; simp
  rw [← hw1]
  have s1 : w.heap.size < w1.heap.size := by rw [hw1]; simp
  clear hw1
  refine (CH.out w1 k1).mono ?_; rintro e w' ⟨rfl, rfl⟩
  rw [errOf_zero]
  have ZE := Lib.hid (fun w' => zero_any c r w' (by omega) (by omega))
  have SK := Lib.hid (fun (w' : World) (h : Kp w1 w') => (show w'.cell? ⟨w.heap.size, 0, none⟩ = some (.slice (some ad) r d) ∧ w'.cell? ad = some (.slice A0 c d0) ∧ Kp w1 w' from
    ⟨(h.cell (p := ⟨w.heap.size, 0, none⟩) s1).trans b1, (h.cell (p := ad) (by omega)).trans ((k1.cell (p := ad) hlt0).trans hc00), h⟩))
  have kd : Kp w1 w1.drew := (Kp.rfl' w1).drewN 1
  have ZA := Lib.hid (zero_any c r w1.drew (by omega) (by omega))
  have ZB := Lib.hid (zero_box c r w1 (by omega) (by omega))
  have kb := ((Kp.rfl' w1).new (.cells #[.slice none 0 0] 22)).drewN 1
  go_upto_region 4 with (fail)
  go_cut [5] from 5 to 19 (fun p wc => Fresh w1 p c r wc)
  case first =>
    go_region_held3 (fun w' => w'.cell? ⟨w.heap.size, 0, none⟩ = some (.slice (some ad) r d) ∧ w'.cell? ad = some (.slice A0 c d0) ∧ Kp w1 w')
      (first
      | exact SK.out _ (Kp.rfl' _)
      | exact SK.out _ kd
      | exact SK.out _ (kd.trans k2)
      | exact SK.out _ ((kd.trans k2).new _)
      | exact SK.out _ kb
      | exact SK.out _ (kb.trans k2)
      | exact SK.out _ ((kb.trans k2).put (Nat.le_refl _) _))
      ((first
      | (go_at_call 25; (with_reducible refine (ZA.out).mono ?_); rintro e w2 ⟨G, rfl, gr, k2⟩)
      | (go_at_call 25; (with_reducible refine (ZB.out).mono ?_); rintro e w2 ⟨G, rfl, gr, k2, y1, y2⟩)))
    all_goals
      go_wp2_with fail
      go_meet
      case rel => first | exact fresh_a gr (kd.trans k2) (Nat.le_refl _) | exact fresh_b gr (kb.trans k2) y1
  case rest =>
    obtain ⟨B, g, G, rfl, hb, hgr, hg, hB, hk⟩ := hcut.ex
    have hb1 := (SK.out wc hk).1
    have GR := Lib.hid hgr
    have HK := Lib.hid hk
    clear hcut hgr hk ZA ZB SK
    go_wp2_with fail
    refine (places_any (some ⟨g, 0, none⟩) c c wc).mono ?_; rintro e w3 ⟨rfl, rfl⟩
    go_wp2_with fail
    have sB : B < wc.heap.size := cell_lt hb
    have sg := GR.out.lt
    have sw := k1.size
    obtain ⟨w4, hw4⟩ : ∃ x, x = wc.alloc (.cells #[.slice (some ⟨g, 0, none⟩) c c] 22) := ⟨_, rfl⟩
    rw [← hw4]
    have kc : Kp wc w4 := by rw [hw4]; exact (Kp.rfl' wc).new _
    have s4 : w4.heap.size = wc.heap.size + 1 := by rw [hw4]; simp
    have c4 : w4.cell? ⟨wc.heap.size, 0, none⟩ = some (.slice (some ⟨g, 0, none⟩) c c) := by rw [hw4]; simp
    have kw := (k1.trans HK.out).trans kc
    have gr4 := GR.out.keep kc
    have hb4 := (kc.cell (p := ⟨B, 0, none⟩) sB).trans hb
    have hm4 := (kc.cell (p := ⟨w.heap.size, 0, none⟩) (by show w.heap.size < _; omega)).trans hb1
    clear hw4
    refine (wpIn_wide (n := 9)).1 (wpIn_rangeFunc_ownF (F := Fence.wide) rfl (Nat.le_add_left 1 8) (gf := 36) (lb := #[.pointer (some ⟨wc.heap.size, 0, none⟩)]) rfl trivial (enters_of Try.func36 (by kernel_rfl) rfl)
      (places_stops 8 (Nat.le_add_left 1 7) wc.heap.size (g + 1) g c r G (Nat.le_trans hc (by decide)) (Nat.le_trans hr (by decide)) (Nat.lt_succ_self g) w4 (by omega) (by omega) c4 (fun i hi => gr4.cell hi))
      belowK_t (belowK_b (by omega)) (Below.refl _ _) (fun _ => rfl)
      (fun pre W => (W.cell? ⟨B, 0, none⟩ = some (.slice (some ⟨g, 0, none⟩) c c) ∧ W.cell? ⟨w.heap.size, 0, none⟩ = some (.slice (some ad) r d) ∧ Grid W g G c r (fun a b => ((Mx.setl c r (Mx.flip f) pre a b).val : Int))) ∧ Below w.heap.size w W)
      (fun _ _ _ => False)
      (OwnFrom.and (Own.from (fun s W1 W2 row hs hg hr => ⟨cell_kept hs.1 hg hr, cell_kept hs.2.1 hg hr, hs.2.2.kept hg hr⟩) _) (ownFrom_below (Nat.le_refl _) (by omega)))
      (fun _ _ _ _ _ hs _ _ => hs)
      ⟨⟨hb4, hm4, gr4.ext (fun a b _ _ => rfl)⟩, kw⟩
      ?a1 ?assign ?body ?done ?stop)
    case assign =>
      intro l x W K hK
      unfold placeOf
      gi_wp2
      exact hK
    case body =>
      rintro l pre x W ⟨⟨q1, q2, q3⟩, q4⟩ _
      have hst := fun a b => Mx.setl_snoc c r (Mx.flip f) pre x a b
      change ∀ a b, _ = if a = rowOf c r x ∧ b = colOf r x then _ else _ at hst
      have hi := rowOf_lt (c := r) x hc0
      have hj := colOf_lt x hr0
      generalize rowOf c r x = i at *
      generalize colOf r x = j at *
      have x1 := q3.cell hi
      have x2 := q3.el hi hj
      have x3 := q3.free hi j
      obtain ⟨ad', A1, d1, ea, _, x4, _, l1⟩ := (HA.out.keep q4).row hj
      obtain rfl := Option.some.inj ea
      obtain ⟨ad1, rfl, _, x5⟩ := l1.el hi
      have Q1 := Lib.hid q1
      have Q3 := Lib.hid q3
      have Q4 := Lib.hid q4
      have HST := Lib.hid hst
      clear q3 q4 hst l1
      refine wpIn_block ?_
      refine region_tail 13 (by kernel_rfl) (by kernel_rfl) (by kernel_rfl) ?_
      simp only [List.take_succ_cons, List.take_zero, List.drop_succ_cons, List.drop_zero]
      repeat still_step
      refine wpStill_nil ?_
      go_wp2_with fail
      refine ⟨rfl, ?_⟩
      have ha := Q3.out.after i hi
      have hn := Q3.out.ne hr0 hi Q1.out
      have hm := Q3.out.ne hr0 hi q2
      have hp : w.heap.size ≤ G i := by omega
      refine ⟨(KeepsOthers.setCell _ _ _).trans (KeepsOthers.drew _), ((Below.refl (g + 1) W).setCell (p := ⟨G i, j, none⟩) (by show g + 1 ≤ G i; omega) _).drew, ⟨?_, ?_, ?_⟩, ((Q4.out).setCell (p := ⟨G i, j, none⟩) hp _).drew⟩
      · exact (World.cell?_setCell_far W ⟨G i, j, none⟩ ⟨B, 0, none⟩ _ (fun e => hn e.symm)).trans Q1.out
      · exact (World.cell?_setCell_far W ⟨G i, j, none⟩ ⟨w.heap.size, 0, none⟩ _ (fun e => hm e.symm)).trans q2
      · refine ((Q3.out.put hi j _).keep ((Kp.rfl' _).drewN 1)).ext fun a b _ _ => ?_
        rw [HST.out a b]
        by_cases e : a = i ∧ b = j
        · rw [if_pos e, if_pos e, e.1, e.2]; rfl
        · rw [if_neg e, if_neg e]
    case done =>
      rintro D ys W hD rfl ⟨⟨q1, q2, q3⟩, q4⟩ hK
      have Q3 := Lib.hid q3
      have Q4 := Lib.hid q4
      clear q3 q4
      go_wp2_with fail
      refine ⟨by simp, .inl ⟨_, _, rfl, run_takeDeferred hK, ?_⟩⟩
      refine ⟨.tuple #[.slice (some ⟨g, 0, none⟩) c c, .nilIface], by simp [results, Try.results10, go_sem], ?_⟩
      have hg2 := Q3.out.kept (grownBy_putObj' W D (.deferred none)) (fun r e => by cases e; exact ⟨_, hK, rfl⟩)
      have hl2 := hg2.lies
      refine ⟨some ⟨g, 0, none⟩, c, ?_, ?_, ?_, Q4.out.trans (belowK_b (w := w) (Nat.le_refl _) W D _ _ (by have := kw.size; omega) hK rfl rfl)⟩
      · rw [Mx.len_matl]
      · rw [Mx.len_matl]; exact Nat.le_refl _
      · rw [← (Mx.setl_all c r (Mx.flip f)).mat]; exact hl2
    case stop =>
      rintro D c pre W _ _ h _
      exact h.elim

end Go.Proofs.Ytfjajcfcbjmbpaa
