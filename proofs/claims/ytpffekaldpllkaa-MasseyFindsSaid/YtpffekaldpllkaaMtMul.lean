/- Contract of package mat's multiply. -/
import Derived.Test.YtpffekaldpllkaaMtAdd
namespace Go.Proofs.Ytpffekaldpllkaa
open Go.ChangeShapes Go.WideShapes Go.ChangeAt Go.RowKit Go.Shelf
set_option linter.unusedVariables false
attribute [local go_sem] Oper.semAt_some

theorem mmore_mod (s a b : Fp.F) : ((s.val : Int) + (a.val : Int) * (b.val : Int)).tmod 9973 = ((s + a * b).val : Int) := by
  have h : 0 ≤ (a.val : Int) * (b.val : Int) := Int.mul_nonneg (fval a).1 (fval b).1
  rw [Int.tmod_eq_emod_of_nonneg (by have := fval s; omega), Mx.val_more]
theorem more_bound (s a b : Fp.F) : 0 ≤ (a.val : Int) * (b.val : Int) ∧ (a.val : Int) * (b.val : Int) ≤ 99440784 := by
  have h1 := fval a
  have h2 := fval b
  exact ⟨Int.mul_nonneg h1.1 h2.1, Int.mul_le_mul h1.2 h2.2 h2.1 (by decide)⟩
theorem zero_val : ((0 : Fp.F).val : Int) = 0 := rfl
theorem plus_zero (a : Fp.F) : a + 0 = a := by grind

set_option maxRecDepth 100000 in
set_option maxHeartbeats 3200000 in
theorem multiply_grid (A A' : Option Addr) (f f' : Nat → Nat → Fp.F) (r q c d d' : Nat) (w : World) (ha : LiesM w A (Mx.matl r q f)) (ha' : LiesM w A' (Mx.matl q c f')) (hr0 : 0 < r) (hr : r ≤ 5) (hq0 : 0 < q) (hq : q ≤ 5) (hc0 : 0 < c) (hc : c ≤ 5) :
    Calls Try.prog 29 #[.slice A r d, .slice A' q d'] w fun e w' => ∃ g G, e = .returned (.slice (some ⟨g, 0, none⟩) r r) ∧ Grid w' g G r c (fun a b => ((Mx.mul q f f' a b).val : Int)) ∧ w.heap.size ≤ g ∧ Kp w w' := by
  obtain ⟨ad, A0, d0, rfl, hlt0, hc00, _, hr00⟩ := ha.row hr0
  obtain ⟨bd, B0, e0, rfl, hlt1, hc01, _, hr01⟩ := ha'.row hq0
  rw [add_zero'] at hc00 hc01
  have HA := Lib.hid ha
  have HA' := Lib.hid ha'
  clear ha ha' hr00 hr01
  refine callsIn_wide.1 (callsIn_of_wp_marks (F := Fence.wide) (n := 9) Try.func29 rfl trivial ?_ rfl)
  simp only [Try.ntmps29, List.size_toArray, List.length_cons, List.length_nil, Nat.reduceAdd, Nat.reduceSub, Array.replicate_succ, Array.replicate_zero, List.push_toArray, List.append_toArray, List.nil_append, List.cons_append]
  refine wpIn_wide.2 ?_
  go_wp2_with fail
  obtain ⟨w2, hw1⟩ : ∃ x, x = (w.alloc (.cells #[.slice (some ad) r d] 36)).alloc (.cells #[.slice (some bd) q d'] 36) := ⟨_, rfl⟩
  have k1 : Kp w w2 := by rw [hw1]; exact ((Kp.rfl' w).new _).new _
  have b1 : w2.cell? ⟨w.heap.size, 0, none⟩ = some (.slice (some ad) r d) := by rw [hw1]; simp
  have b2 : w2.cell? ⟨w.heap.size + 1, 0, none⟩ = some (.slice (some bd) q d') := by rw [hw1]; simp
  rw [← hw1]
  have s1 : w.heap.size + 1 < w2.heap.size := by rw [hw1]; simp
  clear hw1
  have c2 := (k1.cell (p := bd) hlt1).trans hc01
  have kd : Kp w2 w2.drew := (Kp.rfl' w2).drewN 1
  have ZA := Lib.hid (zero_any r c w2.drew (by omega) (by omega))
  have ZB := Lib.hid (zero_box r c w2 (by omega) (by omega))
  have kb := ((Kp.rfl' w2).new (.cells #[.slice none 0 0] 36)).drewN 1
  have SK := Lib.hid (fun (w' : World) (h : Kp w2 w') => (show w'.cell? ⟨w.heap.size, 0, none⟩ = some (.slice (some ad) r d) ∧ w'.cell? ⟨w.heap.size + 1, 0, none⟩ = some (.slice (some bd) q d') ∧ w'.cell? bd = some (.slice B0 c e0) ∧ Kp w2 w' from
    ⟨(h.cell (p := ⟨w.heap.size, 0, none⟩) (by show w.heap.size < _; omega)).trans b1, (h.cell (p := ⟨w.heap.size + 1, 0, none⟩) s1).trans b2, (h.cell (p := bd) (by omega)).trans c2, h⟩))
  go_upto_region 1 with (fail)
  go_cut [5] from 5 to 16 (fun p wc => Fresh w2 p r c wc)
  case first =>
    go_region_held3 (fun w' => w'.cell? ⟨w.heap.size, 0, none⟩ = some (.slice (some ad) r d) ∧ w'.cell? ⟨w.heap.size + 1, 0, none⟩ = some (.slice (some bd) q d') ∧ w'.cell? bd = some (.slice B0 c e0) ∧ Kp w2 w')
      (first
      | exact SK.out _ (Kp.rfl' _)
      | exact SK.out _ kd
      | exact SK.out _ (kd.trans k2)
      | exact SK.out _ ((kd.trans k2).new _)
      | exact SK.out _ kb
      | exact SK.out _ (kb.trans k2)
      | exact SK.out _ ((kb.trans k2).put (Nat.le_refl _) _))
      ((first
      | (go_at_call 44; (with_reducible refine (ZA.out).mono ?_); rintro e w2 ⟨G, rfl, gr, k2⟩)
      | (go_at_call 44; (with_reducible refine (ZB.out).mono ?_); rintro e w2 ⟨G, rfl, gr, k2, y1, y2⟩)))
    all_goals
      go_wp2_with fail
      go_meet
      case rel => first | exact fresh_a gr (kd.trans k2) (Nat.le_refl _) | exact fresh_b gr (kb.trans k2) y1
  case rest =>
    obtain ⟨B, g, G, rfl, hb, hgr, hg, hB, hk⟩ := hcut.ex
    have hb1 := (SK.out wc hk).1
    have hb2 := (SK.out wc hk).2.1
    have GR := Lib.hid hgr
    have HK := Lib.hid hk
    clear hcut hgr hk ZA ZB SK c2 b1 b2
    go_wp2_with fail
    refine (places_any (some ⟨g, 0, none⟩) r r wc).mono ?_; rintro e w3 ⟨rfl, rfl⟩
    go_wp2_with fail
    have sB : B < wc.heap.size := cell_lt hb
    have sg := GR.out.lt
    have sw := k1.size
    have sc := HK.out.size
    obtain ⟨w4, hw4⟩ : ∃ x, x = wc.alloc (.cells #[.slice (some ⟨g, 0, none⟩) r r] 36) := ⟨_, rfl⟩
    rw [← hw4]
    have kc : Kp wc w4 := by rw [hw4]; exact (Kp.rfl' wc).new _
    have s4 : w4.heap.size = wc.heap.size + 1 := by rw [hw4]; simp
    have c4 : w4.cell? ⟨wc.heap.size, 0, none⟩ = some (.slice (some ⟨g, 0, none⟩) r r) := by rw [hw4]; simp
    have kw := (k1.trans HK.out).trans kc
    have gr4 := GR.out.keep kc
    have hb4 := (kc.cell (p := ⟨B, 0, none⟩) sB).trans hb
    have hm4 := (kc.cell (p := ⟨w.heap.size, 0, none⟩) (by show w.heap.size < _; omega)).trans hb1
    have hm5 := (kc.cell (p := ⟨w.heap.size + 1, 0, none⟩) (by show w.heap.size + 1 < _; omega)).trans hb2
    clear hw4
    refine (wpIn_wide (n := 9)).1 (wpIn_rangeFunc_ownF (F := Fence.wide) rfl (Nat.le_add_left 1 8) (gf := 53) (lb := #[.pointer (some ⟨wc.heap.size, 0, none⟩)]) rfl trivial (enters_of Try.func53 (by kernel_rfl) rfl)
      (places_stops 8 (Nat.le_add_left 1 7) wc.heap.size (g + 1) g r c G (Nat.le_trans hr (by decide)) (Nat.le_trans hc (by decide)) (Nat.lt_succ_self g) w4 (by omega) (by omega) c4 (fun i hi => gr4.cell hi))
      belowK_t (belowK_b (by omega)) (Below.refl _ _) (fun _ => rfl)
      (fun pre W => (W.cell? ⟨B, 0, none⟩ = some (.slice (some ⟨g, 0, none⟩) r r) ∧ W.cell? ⟨w.heap.size, 0, none⟩ = some (.slice (some ad) r d) ∧ W.cell? ⟨w.heap.size + 1, 0, none⟩ = some (.slice (some bd) q d') ∧ Grid W g G r c (fun a b => ((Mx.acc r c (Mx.mul q f f') pre a b).val : Int))) ∧ Below w.heap.size w W)
      (fun _ _ _ => False)
      (OwnFrom.and (Go.Own.from (fun s W1 W2 row hs hg hr => ⟨cell_kept hs.1 hg hr, cell_kept hs.2.1 hg hr, cell_kept hs.2.2.1 hg hr, hs.2.2.2.kept hg hr⟩) _) (ownFrom_below (Nat.le_refl _) (by omega)))
      (fun _ _ _ _ _ hs _ _ => hs)
      ⟨⟨hb4, hm4, hm5, gr4.ext (fun a b _ _ => rfl)⟩, kw⟩
      ?a1 ?assign ?body ?done ?stop)
    case assign =>
      intro l x W K hK
      unfold placeOf
      gi_wp2
      exact hK
    case body =>
      rintro l pre x W ⟨⟨q1, q2, q5, q3⟩, q4⟩ _
      have hst := fun a b => Mx.acc_snoc r c (Mx.mul q f f') pre x a b
      change ∀ a b, _ = _ + if a = rowOf r c x ∧ b = colOf c x then _ else _ at hst
      have hi := rowOf_lt (c := c) x hr0
      have hj := colOf_lt x hc0
      generalize rowOf r c x = i at *
      generalize colOf c x = j at *
      have hbg : ∀ a, a < r → g < G a := q3.after
      have hn : B ≠ G i := q3.ne hc0 hi q1
      have hm : w.heap.size ≠ G i := q3.ne hc0 hi q2
      have hm' : w.heap.size + 1 ≠ G i := q3.ne hc0 hi q5
      have hp : w.heap.size ≤ G i := by have := hbg i hi; omega
      obtain ⟨ad', A1, d1, ea, had, x4w, _, l1⟩ := HA.out.row hi
      obtain rfl := Option.some.inj ea
      have x4 := (q4.cell (p := ad.add i) (by rw [block_add]; exact had)).trans x4w
      obtain ⟨ad1, rfl, had1, _⟩ := l1.el hq0
      have L1 := Lib.hid l1
      have Q3 := Lib.hid q3
      have Q4 := Lib.hid q4
      have HST := Lib.hid hst
      have HBG := Lib.hid hbg
      clear q3 q4 hst l1 hbg
      refine wpIn_block ?_
      gi_wp2
      gi_loopw [26] (fun u wr => ∃ k : Nat, k ≤ q ∧ u = .int .i64 (k : Int) ∧ wr.cell? ⟨B, 0, none⟩ = some (.slice (some ⟨g, 0, none⟩) r r) ∧ wr.cell? ⟨w.heap.size, 0, none⟩ = some (.slice (some ad) r d) ∧ wr.cell? ⟨w.heap.size + 1, 0, none⟩ = some (.slice (some bd) q d') ∧
        Grid wr g G r c (fun a b => ((Mx.acc r c (Mx.mul q f f') pre a b + if a = i ∧ b = j then Mx.sg k (fun x => f i x * f' x j) else 0).val : Int)) ∧ KeepsOthers W wr ∧ Below (g + 1) W wr ∧ Below w.heap.size w wr) (fun u _ => q - (intOf u).toNat)
      case atStart =>
        refine ⟨0, Nat.zero_le _, rfl, q1, q2, q5, Q3.out.ext (fun a b _ _ => ?_), KeepsOthers.refl _, Below.refl _ _, Q4.out⟩
        rw [Mx.sg_zero, ite_self, plus_zero]
      case round =>
        obtain ⟨k, hk, rfl, y1, y2, y5, y3, y6, y7, y8⟩ := hrel
        by_cases hlt : k < q
        · obtain ⟨ad1', e1, _, x5⟩ := (L1.out.keep y8).el hlt
          obtain rfl := Option.some.inj e1
          obtain ⟨bd', B1, d2, eb, _, x6, _, l2⟩ := (HA'.out.keep y8).row hlt
          obtain rfl := Option.some.inj eb
          obtain ⟨bd1, rfl, _, x7⟩ := l2.el hj
          have z1 := y3.cell hi
          have z2 := y3.el hi hj
          have z3 := y3.free hi j
          rw [if_pos ⟨rfl, rfl⟩] at z2
          obtain ⟨s, hs⟩ : ∃ s, s = Mx.acc r c (Mx.mul q f f') pre i j + Mx.sg k (fun x => f i x * f' x j) := ⟨_, rfl⟩
          rw [← hs] at z2
          have hmod := mmore_mod s (f i k) (f' k j)
          have v0 := fval s
          have v3 := more_bound s (f i k) (f' k j)
          obtain ⟨z, hz⟩ : ∃ z, z = ((s + f i k * f' k j).val : Int) := ⟨_, rfl⟩
          rw [← hz] at hmod
          have HZ := Lib.hid hz
          have HS := Lib.hid hs
          generalize (s.val : Int) = u0 at *
          generalize ((f i k).val : Int) = u at *
          generalize ((f' k j).val : Int) = v at *
          have hwm : IntKind.i64.wrap (u * v) = u * v := IntWalk.i64_in _ (by omega)
          have hwa : IntKind.i64.wrap (u0 + u * v) = u0 + u * v := IntWalk.i64_in _ (by omega)
          have Y1 := Lib.hid y1
          have Y3 := Lib.hid y3
          have Y6 := Lib.hid y6
          have Y7 := Lib.hid y7
          have Y8 := Lib.hid y8
          clear y3 y6 y7 y8 hz hs l2 v0 v3
          gi_wp2
          refine region_tail 24 (by kernel_rfl) (by kernel_rfl) (by kernel_rfl) ?_
          simp only [List.take_succ_cons, List.take_zero, List.drop_succ_cons, List.drop_zero]
          repeat still_step
          refine wpStill_nil ?_
          go_wp2_with fail
          refine ⟨rfl, ?_⟩
          gi_wp2
          go_roundw
          case rel =>
            refine ⟨k + 1, by omega, by go_num, ?_, ?_, ?_, ?_, Y6.out.trans ((KeepsOthers.setCell _ _ _).trans (KeepsOthers.drew _)), (Y7.out.setCell (p := ⟨G i, j, none⟩) (by show g + 1 ≤ G i; have := HBG.out i hi; omega) _).drew, ((Y8.out).setCell (p := ⟨G i, j, none⟩) hp _).drew⟩
            · exact (World.cell?_setCell_far wr ⟨G i, j, none⟩ ⟨B, 0, none⟩ _ (fun e => hn e.symm)).trans Y1.out
            · exact (World.cell?_setCell_far wr ⟨G i, j, none⟩ ⟨w.heap.size, 0, none⟩ _ (fun e => hm e.symm)).trans y2
            · exact (World.cell?_setCell_far wr ⟨G i, j, none⟩ ⟨w.heap.size + 1, 0, none⟩ _ (fun e => hm' e.symm)).trans y5
            · refine ((Y3.out.put hi j _).keep ((Kp.rfl' _).drewN 1)).ext fun a b _ _ => ?_
              by_cases e : a = i ∧ b = j
              · rw [if_pos e, if_pos e, HZ.out, e.1, e.2, HS.out, Mx.sg_succ]; congr 2; grind
              · rw [if_neg e, if_neg e, if_neg e]
          case measure => simp [intOf]; omega
        · obtain rfl : k = q := by omega
          have Y1 := Lib.hid y1
          have Y3 := Lib.hid y3
          have Y6 := Lib.hid y6
          have Y7 := Lib.hid y7
          have Y8 := Lib.hid y8
          clear y1 y3 y6 y7 y8
          gi_wp2
          refine ⟨Y6.out, Y7.out, ⟨Y1.out, y2, y5, Y3.out.ext (fun a b _ _ => ?_)⟩, Y8.out⟩
          rw [HST.out a b]
          by_cases e : a = i ∧ b = j
          · rw [if_pos e, if_pos e, e.1, e.2]; rfl
          · rw [if_neg e, if_neg e]
    case done =>
      rintro D ys W hD rfl ⟨⟨q1, q2, q5, q3⟩, q4⟩ hK
      have Q3 := Lib.hid q3
      have Q4 := Lib.hid q4
      clear q3 q4
      go_wp2_with fail
      refine ⟨by simp, .inl ⟨_, _, rfl, run_takeDeferred hK, ?_⟩⟩
      refine ⟨.slice (some ⟨g, 0, none⟩) r r, by simp [results, Try.results29, go_sem], ?_⟩
      have hg2 := Q3.out.kept (grownBy_putObj' W D (.deferred none)) (fun r e => by cases e; exact ⟨_, hK, rfl⟩)
      refine ⟨g, G, rfl, ?_, by have := k1.size; omega, Q4.out.trans (belowK_b (w := w) (Nat.le_refl _) W D _ _ (by have := kw.size; omega) hK rfl rfl)⟩
      exact hg2.ext fun a b ha hb => by rw [Mx.acc_all r c (Mx.mul q f f') a b ha hb]
    case stop =>
      rintro D c pre W _ _ h _
      exact h.elim
theorem multiply_any (A A' : Option Addr) (f f' : Nat → Nat → Fp.F) (r q c d d' : Nat) (w : World) (ha : LiesM w A (Mx.matl r q f)) (ha' : LiesM w A' (Mx.matl q c f')) (hr0 : 0 < r) (hr : r ≤ 5) (hq0 : 0 < q) (hq : q ≤ 5) (hc0 : 0 < c) (hc : c ≤ 5) :
    Calls Try.prog 29 #[.slice A r d, .slice A' q d'] w fun e w' => ∃ g, e = .returned (.slice (some ⟨g, 0, none⟩) r r) ∧ LiesM w' (some ⟨g, 0, none⟩) (Mx.matl r c (Mx.mul q f f')) ∧ Kp w w' :=
  (multiply_grid A A' f f' r q c d d' w ha ha' hr0 hr hq0 hq hc0 hc).mono fun _ _ ⟨_, _, he, hg, _, hk⟩ => ⟨_, he, hg.lies, hk⟩

end Go.Proofs.Ytpffekaldpllkaa
