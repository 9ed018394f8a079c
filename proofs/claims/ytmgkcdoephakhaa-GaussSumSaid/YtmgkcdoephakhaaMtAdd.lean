/- Contract of package mat's Add. -/
import Derived.Test.YtmgkcdoephakhaaMtTurn
import Derived.BigQuiet
namespace Go.Proofs.Ytmgkcdoephakhaa
open Go.ChangeShapes Go.WideShapes Go.ChangeAt Go.RowKit Go.Shelf
set_option linter.unusedVariables false
attribute [local go_sem] Oper.semAt_some

theorem fval (a : Fp.F) : 0 ≤ (a.val : Int) ∧ (a.val : Int) ≤ 9972 := by have := a.isLt; omega
theorem sum_mod (a b : Fp.F) : ((a.val : Int) + (b.val : Int)).tmod 9973 = ((a + b).val : Int) := by
  rw [Int.tmod_eq_emod_of_nonneg (by have := fval a; have := fval b; omega), Mx.val_plus]

set_option maxRecDepth 100000 in
set_option maxHeartbeats 3200000 in
theorem Add_ok (A A' : Option Addr) (f f' : Nat → Nat → Fp.F) (r c d d' : Nat) (w : World) (ha : LiesM w A (Mx.matl r c f)) (ha' : LiesM w A' (Mx.matl r c f')) (hr0 : 0 < r) (hr : r ≤ 5) (hc0 : 0 < c) (hc : c ≤ 5) :
    Calls Try.prog 10 #[.slice A r d, .slice A' r d'] w fun e w' => GivesM (Mx.matl r c (Mx.plus f f')) w e w' := by
  have CH := Lib.hid (fun w' (h : Kp w w') => checkBoth_any A A' (Mx.matl r c f) (Mx.matl r c f') r r d d' w' (ha.keep h) (ha'.keep h) (Mx.len_matl r c f) (Mx.len_matl r c f'))
  unfold mcode2 at CH
  rw [if_pos (Mx.mcode_matl f hr0 hr hc0 hc), Mx.mcode_matl f' hr0 hr hc0 hc] at CH
  obtain ⟨ad, A0, d0, rfl, hlt0, hc00, _, hr00⟩ := ha.row hr0
  obtain ⟨bd, B0, e0, rfl, hlt1, hc01, _, hr01⟩ := ha'.row hr0
  rw [add_zero'] at hc00 hc01
  have HA := Lib.hid ha
  have HA' := Lib.hid ha'
  clear ha ha' hr00 hr01
  refine callsIn_wide.1 (callsIn_of_wp_marks (F := Fence.wide) (n := 9) Try.func10 rfl trivial ?_ rfl)
  simp only [Try.ntmps10, List.size_toArray, List.length_cons, List.length_nil, Nat.reduceAdd, Nat.reduceSub, Array.replicate_succ, Array.replicate_zero, List.push_toArray, List.append_toArray, List.nil_append, List.cons_append]
  refine wpIn_wide.2 ?_
  go_wp2_with fail
  obtain ⟨w1, hw1⟩ : ∃ x, x = (w.alloc (.cells #[.slice (some ad) r d] 22)).alloc (.cells #[.slice (some bd) r d'] 22) := ⟨_, rfl⟩
  have k1 : Kp w w1 := by rw [hw1]; exact ((Kp.rfl' w).new _).new _
  have b1 : w1.cell? ⟨w.heap.size, 0, none⟩ = some (.slice (some ad) r d) := by rw [hw1]; simp
  have b2 : w1.cell? ⟨w.heap.size + 1, 0, none⟩ = some (.slice (some bd) r d') := by rw [hw1]; simp
  rw [← hw1]
  have s1 : w.heap.size + 1 < w1.heap.size := by rw [hw1]; simp
  clear hw1
  have c1 := (k1.cell (p := ad) hlt0).trans hc00
  have c2 := (k1.cell (p := bd) hlt1).trans hc01
  refine (CH.out w1 k1).mono ?_; rintro e w' ⟨rfl, rfl⟩
  rw [errOf_zero]
  have e1 : ((r : Int) != (r : Int)) = false := by simp
  have e2 : ((c : Int) != (c : Int)) = false := by simp
  go_wp2_with fail
  go_quiet (fail)
  go_wp2_with fail
  obtain ⟨w2, hw2⟩ : ∃ x, x = w1.drewN nq := ⟨_, rfl⟩
  have kn : Kp w1 w2 := by rw [hw2]; exact (Kp.rfl' w1).drewN nq
  have sn : w2.heap.size = w1.heap.size := by rw [hw2]; simp
  rw [← hw2]
  have SN := Lib.hid sn
  clear hw2
  have kd : Kp w2 w2.drew := (Kp.rfl' w2).drewN 1
  have ZA := Lib.hid (zero_any r c w2.drew (by omega) (by omega))
  have ZB := Lib.hid (zero_box r c w2 (by omega) (by omega))
  have kb := ((Kp.rfl' w2).new (.cells #[.slice none 0 0] 22)).drewN 1
  have SK := Lib.hid (fun (w' : World) (h : Kp w2 w') => (show w'.cell? ⟨w.heap.size, 0, none⟩ = some (.slice (some ad) r d) ∧ w'.cell? ad = some (.slice A0 c d0) ∧ Kp w2 w' from
    ⟨((kn.trans h).cell (p := ⟨w.heap.size, 0, none⟩) (by show w.heap.size < _; omega)).trans b1, ((kn.trans h).cell (p := ad) (by omega)).trans c1, h⟩))
  clear sn
  go_upto_region 6 with (fail)
  go_cut [7] from 7 to 39 (fun p wc => Fresh w2 p r c wc)
  case first =>
    go_region_held3 (fun w' => w'.cell? ⟨w.heap.size, 0, none⟩ = some (.slice (some ad) r d) ∧ w'.cell? ad = some (.slice A0 c d0) ∧ Kp w2 w')
      (first
      | exact SK.out _ (Kp.rfl' _)
      | exact SK.out _ kd
      | exact SK.out _ (kd.trans k2)
      | exact SK.out _ ((kd.trans k2).new _)
      | exact SK.out _ kb
      | exact SK.out _ (kb.trans k2)
      | exact SK.out _ ((kb.trans k2).put (Nat.le_refl _) _))
      ((first
      | (go_at_call 17; (with_reducible refine (ZA.out).mono ?_); rintro e w2 ⟨G, rfl, gr, k2⟩)
      | (go_at_call 17; (with_reducible refine (ZB.out).mono ?_); rintro e w2 ⟨G, rfl, gr, k2, y1, y2⟩)))
    all_goals
      go_wp2_with fail
      go_meet
      case rel => first | exact fresh_a gr (kd.trans k2) (Nat.le_refl _) | exact fresh_b gr (kb.trans k2) y1
  case rest =>
    obtain ⟨B, g, G, rfl, hb, hgr, hg, hB, hk⟩ := hcut.ex
    have hb1 := (SK.out wc hk).1
    have hb2 := ((kn.trans hk).cell (p := ⟨w.heap.size + 1, 0, none⟩) s1).trans b2
    have GR := Lib.hid hgr
    have HK := Lib.hid (kn.trans hk)
    rw [SN.out] at hg hB
    clear hcut hgr hk ZA ZB SK c1 c2 b1 b2
    go_wp2_with fail
    refine (places_any (some ⟨g, 0, none⟩) r r wc).mono ?_; rintro e w3 ⟨rfl, rfl⟩
    go_wp2_with fail
    have sB : B < wc.heap.size := cell_lt hb
    have sg := GR.out.lt
    have sw := k1.size
    have sc := HK.out.size
    obtain ⟨w4, hw4⟩ : ∃ x, x = wc.alloc (.cells #[.slice (some ⟨g, 0, none⟩) r r] 22) := ⟨_, rfl⟩
    rw [← hw4]
    have kc : Kp wc w4 := by rw [hw4]; exact (Kp.rfl' wc).new _
    have s4 : w4.heap.size = wc.heap.size + 1 := by rw [hw4]; simp
    have c4 : w4.cell? ⟨wc.heap.size, 0, none⟩ = some (.slice (some ⟨g, 0, none⟩) r r) := by rw [hw4]; simp
    have kw := (k1.trans HK.out).trans kc
    have gr4 := GR.out.keep kc
    have hb4 := (kc.cell (p := ⟨B, 0, none⟩) sB).trans hb
    have hm4 := (kc.cell (p := ⟨w.heap.size, 0, none⟩) (by show w.heap.size < _; omega)).trans hb1
    have hm5 := (kc.cell (p := ⟨w.heap.size + 1, 0, none⟩) (by show w.heap.size + 1 < _; omega)).trans hb2
    clear hw4
    refine (wpIn_wide (n := 9)).1 (wpIn_rangeFunc_ownF (F := Fence.wide) rfl (Nat.le_add_left 1 8) (gf := 28) (lb := #[.pointer (some ⟨wc.heap.size, 0, none⟩)]) rfl trivial (enters_of Try.func28 (by kernel_rfl) rfl)
      (places_stops 8 (Nat.le_add_left 1 7) wc.heap.size (g + 1) g r c G (Nat.le_trans hr (by decide)) (Nat.le_trans hc (by decide)) (Nat.lt_succ_self g) w4 (by omega) (by omega) c4 (fun i hi => gr4.cell hi))
      belowK_t (belowK_b (by omega)) (Below.refl _ _) (fun _ => rfl)
      (fun pre W => (W.cell? ⟨B, 0, none⟩ = some (.slice (some ⟨g, 0, none⟩) r r) ∧ W.cell? ⟨w.heap.size, 0, none⟩ = some (.slice (some ad) r d) ∧ W.cell? ⟨w.heap.size + 1, 0, none⟩ = some (.slice (some bd) r d') ∧ Grid W g G r c (fun a b => ((Mx.setl r c (Mx.plus f f') pre a b).val : Int))) ∧ Below w.heap.size w W)
      (fun _ _ _ => False)
      (OwnFrom.and (Own.from (fun s W1 W2 row hs hg hr => ⟨cell_kept hs.1 hg hr, cell_kept hs.2.1 hg hr, cell_kept hs.2.2.1 hg hr, hs.2.2.2.kept hg hr⟩) _) (ownFrom_below (Nat.le_refl _) (by omega)))
      (fun _ _ _ _ _ hs _ _ => hs)
      ⟨⟨hb4, hm4, hm5, gr4.ext (fun a b _ _ => rfl)⟩, kw⟩
      ?a1 ?assign ?body ?done ?stop)
    case assign =>
      intro l x W K hK
      unfold placeOf
      gi_wp2
      exact hK
    case body =>
      rintro l pre x W ⟨⟨q1, q2, q5, q3⟩, q4⟩ _
      have hst := fun a b => Mx.setl_snoc r c (Mx.plus f f') pre x a b
      change ∀ a b, _ = if a = rowOf r c x ∧ b = colOf c x then _ else _ at hst
      have hi := rowOf_lt (c := c) x hr0
      have hj := colOf_lt x hc0
      generalize rowOf r c x = i at *
      generalize colOf c x = j at *
      have x1 := q3.cell hi
      have x2 := q3.el hi hj
      have x3 := q3.free hi j
      obtain ⟨ad', A1, d1, ea, _, x4, _, l1⟩ := (HA.out.keep q4).row hi
      obtain rfl := Option.some.inj ea
      obtain ⟨ad1, rfl, _, x5⟩ := l1.el hj
      obtain ⟨bd', B1, e1, eb, _, x6, _, l2⟩ := (HA'.out.keep q4).row hi
      obtain rfl := Option.some.inj eb
      obtain ⟨bd1, rfl, _, x7⟩ := l2.el hj
      have Q1 := Lib.hid q1
      have Q3 := Lib.hid q3
      have Q4 := Lib.hid q4
      have HST := Lib.hid hst
      have hmod := sum_mod (f i j) (f' i j)
      have v1 := fval (f i j)
      have v2 := fval (f' i j)
      obtain ⟨z, hz⟩ : ∃ z, z = ((f i j + f' i j).val : Int) := ⟨_, rfl⟩
      rw [← hz] at hmod
      generalize ((f i j).val : Int) = u at *
      generalize ((f' i j).val : Int) = v at *
      have hwr : IntKind.i64.wrap (u + v) = u + v := IntWalk.i64_in _ (by omega)
      have HZ := Lib.hid hz
      clear q3 q4 hst l1 l2 hz
      refine wpIn_block ?_
      refine region_tail 22 (by kernel_rfl) (by kernel_rfl) (by kernel_rfl) ?_
      simp only [List.take_succ_cons, List.take_zero, List.drop_succ_cons, List.drop_zero]
      repeat still_step
      refine wpStill_nil ?_
      go_wp2_with fail
      refine ⟨rfl, ?_⟩
      have ha := Q3.out.after i hi
      have hn := Q3.out.ne hc0 hi Q1.out
      have hm := Q3.out.ne hc0 hi q2
      have hm' := Q3.out.ne hc0 hi q5
      have hp : w.heap.size ≤ G i := by omega
      refine ⟨(KeepsOthers.setCell _ _ _).trans (KeepsOthers.drew _), ((Below.refl (g + 1) W).setCell (p := ⟨G i, j, none⟩) (by show g + 1 ≤ G i; omega) _).drew, ⟨?_, ?_, ?_, ?_⟩, ((Q4.out).setCell (p := ⟨G i, j, none⟩) hp _).drew⟩
      · exact (World.cell?_setCell_far W ⟨G i, j, none⟩ ⟨B, 0, none⟩ _ (fun e => hn e.symm)).trans Q1.out
      · exact (World.cell?_setCell_far W ⟨G i, j, none⟩ ⟨w.heap.size, 0, none⟩ _ (fun e => hm e.symm)).trans q2
      · exact (World.cell?_setCell_far W ⟨G i, j, none⟩ ⟨w.heap.size + 1, 0, none⟩ _ (fun e => hm' e.symm)).trans q5
      · refine ((Q3.out.put hi j _).keep ((Kp.rfl' _).drewN 1)).ext fun a b _ _ => ?_
        rw [HST.out a b]
        by_cases e : a = i ∧ b = j
        · rw [if_pos e, if_pos e, e.1, e.2]; exact HZ.out
        · rw [if_neg e, if_neg e]
    case done =>
      rintro D ys W hD rfl ⟨⟨q1, q2, q5, q3⟩, q4⟩ hK
      have Q3 := Lib.hid q3
      have Q4 := Lib.hid q4
      clear q3 q4
      go_wp2_with fail
      refine ⟨by simp, .inl ⟨_, _, rfl, run_takeDeferred hK, ?_⟩⟩
      refine ⟨.tuple #[.slice (some ⟨g, 0, none⟩) r r, .nilIface], by simp [results, Try.results10, go_sem], ?_⟩
      have hg2 := Q3.out.kept (grownBy_putObj' W D (.deferred none)) (fun r e => by cases e; exact ⟨_, hK, rfl⟩)
      have hl2 := hg2.lies
      refine ⟨some ⟨g, 0, none⟩, r, ?_, ?_, ?_, Q4.out.trans (belowK_b (w := w) (Nat.le_refl _) W D _ _ (by have := kw.size; omega) hK rfl rfl)⟩
      · rw [Mx.len_matl]
      · rw [Mx.len_matl]; exact Nat.le_refl _
      · rw [← (Mx.setl_all r c (Mx.plus f f')).mat]; exact hl2
    case stop =>
      rintro D c pre W _ _ h _
      exact h.elim

end Go.Proofs.Ytmgkcdoephakhaa
