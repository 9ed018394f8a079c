/- Contracts of package minors. -/
import Derived.Test.YtofdhdnffkhojaaDoorOthM
import Derived.Test.YtofdhdnffkhojaaDoorOwnM
import Derived.Test.YtofdhdnffkhojaaDoorDeC3
import Derived.Test.YtofdhdnffkhojaaDoorMatD
namespace Go.Proofs.YtofdhdnffkhojaaDoor
open Go.ChangeShapes Go.WideShapes Go.ChangeAt Go.RowKit Go.Shelf
set_option linter.unusedVariables false
attribute [local go_sem] Oper.semAt_some

section
variable {ops : Array Oper} {o : Oper} {a : Act} {w : World} {K : Act → World → Prop} {Q : Exit → Act → World → Prop}
theorem step_wanted {E : Prop} (hgd : o.guard = Option.none) (h : Oper.wp Tryd.prog o a w K Q) :
    if Region.wanted o (yielded ops a.tmps) = true then Oper.wp Tryd.prog o a w K Q else E := by
  have hw : Region.wanted o (yielded ops a.tmps) = true := by simp [Region.wanted, hgd]
  rw [if_pos hw]; exact h
end

/-- What is the call's own abides the turn of what is no cells. -/
theorem ownsRow_keptN {W W' : World} {row : Option Nat} {B n : Nat} {e : TypeId} {v : Value} {xs : List Value} (h : W.ownsRow B e 1 v n xs) (hg : W.grownBy W' row)
    (hr : ∀ r, row = some r → ∃ o : Obj, W.heap[r]? = some o ∧ o.isCells = false) : W'.ownsRow B e 1 v n xs := by
  refine h.kept hg ?_
  rcases h.2 with ⟨rfl, _⟩ | ⟨g, cap, cur, rfl, _, hgb, _⟩
  · exact .inl rfl
  · refine .inr fun e' => ?_
    obtain ⟨o, ho, hc⟩ := hr g (by simpa [Value.ownBlock] using e'.symm)
    rw [hgb] at ho; cases ho; cases hc
theorem ownM_keptN {W W' : World} {row : Option Nat} {B : Nat} {v : Value} {G C : Nat → Nat} {m : List (List Int)} (h : OwnM W B v G C m) (hg : W.grownBy W' row)
    (hr : ∀ r, row = some r → ∃ o : Obj, W.heap[r]? = some o ∧ o.isCells = false) : OwnM W' B v G C m :=
  ⟨ownsRow_keptN h.top hg hr, fun i hi => ownsRow_keptN (h.row i hi) hg hr, h.apart⟩
theorem boxed_keptN {W W' : World} {row : Option Nat} {B : Nat} {t : TypeId} {v : Value} (h : Boxed W B t v) (hg : W.grownBy W' row)
    (hr : ∀ r, row = some r → ∃ o : Obj, W.heap[r]? = some o ∧ o.isCells = false) : Boxed W' B t v :=
  h.kept hg fun e => by
    obtain ⟨o, ho, hc⟩ := hr B e.symm
    rw [show W.heap[B]? = _ from h] at ho; cases ho; cases hc
theorem boxed_kp {W W' : World} {B : Nat} {t : TypeId} {v : Value} (h : Boxed W B t v) (hk : Kp W W') : Boxed W' B t v :=
  (hk.block B h.lt).trans h
theorem keeps_kp {W W' : World} (h : Kp W W') : KeepsOthers W W' := ⟨h.size, fun k o hk _ => (h.block k (Array.getElem?_eq_some_iff.1 hk).1).trans hk⟩
/-- A store into a variable's box leaves the rows and their heads. -/
theorem ownM_box {W : World} {B Bx : Nat} {v u u' : Value} {G C : Nat → Nat} {m : List (List Int)} (h : OwnM W B v G C m) (hb : Boxed W Bx 22 u) : OwnM (W.setCell ⟨Bx, 0, none⟩ u') B v G C m := by
  refine ⟨World.ownsRow.kept h.top (grownBy_setCell' W Bx u') (.inr (hb.not_row (by decide) h.top).symm), fun i hi => own_store (h.row i hi) (a := ⟨Bx, 0, none⟩) (fun e => ?_) u', h.apart⟩
  obtain ⟨cur, hh, _⟩ := own_row (h.row i hi)
  have h2 : W.heap[Bx]? = some (.cells #[u] 22 (0, 0)) := hb
  rw [show G i = Bx from e, h2] at hh
  cases hh

/-- The rows x of a list without place j. -/
def mrows (n p j : Nat) (f : Nat → Nat → Fp.F) (pre : List Nat) : List (List Int) := pre.map fun x => Mx.row p fun b => ((f (x % n) (Mx.sk j b)).val : Int)
theorem mrows_len (n p j : Nat) (f : Nat → Nat → Fp.F) (pre : List Nat) : (mrows n p j f pre).length = pre.length := by simp [mrows]
theorem mrows_snoc (n p j : Nat) (f : Nat → Nat → Fp.F) (pre : List Nat) (x : Nat) : mrows n p j f (pre ++ [x]) = mrows n p j f pre ++ [Mx.row p fun b => ((f (x % n) (Mx.sk j b)).val : Int)] := by simp [mrows]
theorem mrows_all {n p i j : Nat} (f : Nat → Nat → Fp.F) (hn : n = p + 1) (hi : i ≤ p) : mrows n p j f (kept i n) = Mx.matl p p (wo f i j) := by
  unfold mrows kept
  rw [hn, ct_end hi, List.map_map]
  unfold Mx.matl Mx.tab
  refine List.map_congr_left fun a ha => ?_
  have ha' := List.mem_range.1 ha
  show Mx.row p _ = Mx.row p _
  refine Mx.row_ext fun b _ => ?_
  show ((f (Mx.sk i a % (p + 1)) (Mx.sk j b)).val : Int) = ((f (Mx.sk i a) (Mx.sk j b)).val : Int)
  rw [Nat.mod_eq_of_lt (Mx.sk_lt ha')]

/-- Between two rounds: in its variable lie the rows so far; the row and the column that are left out are as they were. -/
structure MinAt (w : World) (n p i j : Nat) (f : Nat → Nat → Fp.F) (pre : List Nat) (W : World) : Prop where
  rest : ∃ v G C, Boxed W (w.heap.size + 1) 22 v ∧ OwnM W w.heap.size v G C (mrows n p j f pre)
  col : Boxed W w.heap.size 3 (.int .i64 (j : Int))
  row : Boxed W (w.heap.size + 3) 3 (.int .i64 (i : Int))
theorem minAt_own (w : World) (n p i j : Nat) (f : Nat → Nat → Fp.F) : Go.Own (MinAt w n p i j f) := fun s W W' row hs hg hr => by
  obtain ⟨v, G, C, h1, h2⟩ := hs.rest
  exact ⟨⟨v, G, C, boxed_keptN h1 hg hr, ownM_keptN h2 hg hr⟩, boxed_keptN hs.col hg hr, boxed_keptN hs.row hg hr⟩

theorem min_fin {w W wd w4 w6 : World} {n p i j B x vg vc : Nat} {f : Nat → Nat → Fp.F} {pre : List Nat} {v : Value} {G C G' C' : Nat → Nat} {tmp : Obj} (hw : Below w.heap.size w W) (hkd : Kp W wd) (k4 : Kp wd w4)
    (hv : Boxed W (w.heap.size + 1) 22 v) (ho : OwnM W w.heap.size v G C (mrows n p j f pre)) (hc : Boxed W w.heap.size 3 (.int .i64 (j : Int))) (hr : Boxed W (w.heap.size + 3) 3 (.int .i64 (i : Int)))
    (hg : (w4.alloc tmp).grownBy w6 v.ownBlock) (h6 : OwnM w6 w.heap.size (.slice (some ⟨vg, 0, none⟩) (pre.length + 1) vc) G' C' (mrows n p j f pre ++ [Mx.row p fun b => ((f (x % n) (Mx.sk j b)).val : Int)])) :
    KeepsFrom B W (w6.setCell ⟨w.heap.size + 1, 0, none⟩ (.slice (some ⟨vg, 0, none⟩) (pre.length + 1) vc)) ∧ KeepB w.heap.size (w.heap.size + 3) (i : Int) W (w6.setCell ⟨w.heap.size + 1, 0, none⟩ (.slice (some ⟨vg, 0, none⟩) (pre.length + 1) vc)) ∧
      MinAt w n p i j f (pre ++ [x]) (w6.setCell ⟨w.heap.size + 1, 0, none⟩ (.slice (some ⟨vg, 0, none⟩) (pre.length + 1) vc)) ∧ Below w.heap.size w (w6.setCell ⟨w.heap.size + 1, 0, none⟩ (.slice (some ⟨vg, 0, none⟩) (pre.length + 1) vc)) := by
  have hk4 := hkd.trans k4
  have hs := hw.size
  have hv4 := boxed_kp hv hk4
  have hrow4 := (ho.kp hk4).top
  have hl := hv4.lt
  obtain ⟨b6, b7, _, ko, be⟩ := hv4.appended (by decide) hrow4 (by omega) (Nat.le_succ _) h6.top hg
  have hb : Below w.heap.size W (w6.setCell ⟨w.heap.size + 1, 0, none⟩ (.slice (some ⟨vg, 0, none⟩) (pre.length + 1) vc)) := (hk4.mono hs).trans be
  have far : ∀ (q : Nat) (z : Int), q ≠ w.heap.size + 1 → Boxed W q 3 (.int .i64 z) → Boxed (w6.setCell ⟨w.heap.size + 1, 0, none⟩ (.slice (some ⟨vg, 0, none⟩) (pre.length + 1) vc)) q 3 (.int .i64 z) := fun q z ne hq => by
    have h4 := (boxed_kp hq hk4).alloc tmp
    have h6' := h4.kept hg (h4.not_row (by decide) (hrow4.alloc tmp))
    exact (Below.heap_setCell w6 ⟨w.heap.size + 1, 0, none⟩ _ q ne).trans h6'
  refine ⟨((keeps_kp hk4).trans ko).from B, ⟨hb, fun _ => (far _ _ (by omega) hr).cell⟩, ⟨⟨_, G', C', b7, ?_⟩, far _ _ (by omega) hc, far _ _ (by omega) hr⟩, hw.trans hb⟩
  rw [mrows_snoc]
  exact ownM_box h6 b6


set_option maxRecDepth 100000 in
theorem minor_one (A : Option Addr) (d : Nat) (i j : Int) (w : World) :
    Calls Tryd.prog 55 #[.slice A 1 d, .int .i64 i, .int .i64 j] w fun e w' => e = .returned (.tuple #[.int .i64 1, .nilIface]) ∧ Kp w w' := by
  go_enter Tryd.func55, Tryd.ntmps55
  go_wp2_with fail
  go_ret2
  exact ⟨rfl, (Kp.rfl' w).new _⟩

/-- The heads of the rows, by their numbers. -/
theorem LiesM.heads {w : World} {A : Option Addr} {r c : Nat} {f : Nat → Nat → Fp.F} (h : LiesM w A (Mx.matl r c f)) :
    ∃ (R : Nat → Option Addr) (D : Nat → Nat), ∀ i, i < r → ∃ ad, A = some ad ∧ ad.block < w.heap.size ∧ w.cell? (ad.add i) = some (.slice (R i) c (D i)) ∧ Lies w (R i) (Mx.row c fun b => ((f i b).val : Int)) := by
  have h1 : ∀ i, ∃ q : Option Addr × Nat, i < r → ∃ ad, A = some ad ∧ ad.block < w.heap.size ∧ w.cell? (ad.add i) = some (.slice q.1 c q.2) ∧ Lies w q.1 (Mx.row c fun b => ((f i b).val : Int)) := fun i => by
    by_cases hi : i < r
    · obtain ⟨ad, A', cap, e, hl, hc, _, hr⟩ := h.row hi
      exact ⟨(A', cap), fun _ => ⟨ad, e, hl, hc, hr⟩⟩
    · exact ⟨(Option.none, 0), fun h' => absurd h' hi⟩
  obtain ⟨q, hq⟩ := Classical.axiomOfChoice h1
  exact ⟨fun i => (q i).1, fun i => (q i).2, hq⟩

set_option maxRecDepth 100000 in
set_option maxHeartbeats 4000000 in
theorem minor_more (A : Option Addr) (f : Nat → Nat → Fp.F) (n p i j d : Nat) (w : World) (ha : LiesM w A (Mx.matl n n f)) (hn : n = p + 1) (hi : i ≤ p) (hj : j ≤ p) (hp0 : 0 < p) (hp : p ≤ 5) :
    Calls Tryd.prog 55 #[.slice A n d, .int .i64 (i : Int), .int .i64 (j : Int)] w fun e w' => e = .returned (.tuple #[.int .i64 ((Mx.dt p (wo f i j)).val : Int), .nilIface]) ∧ Kp w w' := by
  obtain ⟨R, D, HR⟩ := ha.heads
  have HR := Lib.hid HR
  have OF := Lib.hid (fun A' d' w' h => Of_ok A' (wo f i j) p d' w' h hp0 hp)
  have ALL := Lib.hid (mrows_all (j := j) f hn hi)
  have e1 : ((n : Int) == 1) = false := by rw [beq_eq_false_iff_ne]; omega
  have HN := Lib.hid hn
  have hn6 : n ≤ 6 := by omega
  have hn0 : 0 < n := by omega
  have hi6 : i ≤ 1000 := by omega
  have hj6 : j ≤ 1000 := by omega
  have HJ := Lib.hid hj
  have HP0 := Lib.hid hp0
  generalize Mx.dt p (wo f i j) = dd at *
  clear ha hn hi hj hp0 hp
  refine callsIn_wide.1 (callsIn_of_wp_marks (F := Fence.wide) (n := 9) Tryd.func55 rfl trivial ?_ rfl)
  simp only [Tryd.ntmps55, List.size_toArray, List.length_cons, List.length_nil, Nat.reduceAdd, Nat.reduceSub, Array.replicate_succ, Array.replicate_zero, List.push_toArray, List.append_toArray, List.nil_append, List.cons_append]
  refine wpIn_wide.2 ?_
  go_wp2_with fail
  refine (othersM_any A n d (i : Int) _).mono ?_; rintro e w' ⟨rfl, hw'⟩
  have b0 : Boxed (w.alloc (.cells #[.int .i64 (j : Int)] 3)) w.heap.size 3 (.int .i64 (j : Int)) := Boxed.new w _ _
  have b1 : Boxed ((w.alloc (.cells #[.int .i64 (j : Int)] 3)).alloc (.cells #[.slice none 0 0] 22)) (w.heap.size + 1) 22 (.slice none 0 0) := by
    have := Boxed.new (w.alloc (.cells #[.int .i64 (j : Int)] 3)) 22 (.slice none 0 0)
    rwa [World.size_alloc] at this
  obtain ⟨w2, hw2⟩ : ∃ x, x = (w.alloc (.cells #[.int .i64 (j : Int)] 3)).alloc (.cells #[.slice none 0 0] 22) := ⟨_, rfl⟩
  have s2 : w2.heap.size = w.heap.size + 2 := by rw [hw2]; simp
  have k2 : Kp w w2 := by rw [hw2]; exact ((Kp.rfl' w).new _).new _
  have c0 : Boxed w2 w.heap.size 3 (.int .i64 (j : Int)) := by rw [hw2]; exact b0.alloc _
  rw [← hw2] at b1 hw' ⊢
  clear hw2 b0
  have d0 : Boxed (w2.alloc (.cells #[.slice A n d] 22)) (w.heap.size + 2) 22 (.slice A n d) := by rw [← s2]; exact Boxed.new w2 _ _
  have d1 : Boxed w' (w.heap.size + 3) 3 (.int .i64 (i : Int)) := by
    rw [hw']
    have := Boxed.new (w2.alloc (.cells #[.slice A n d] 22)) 3 (.int .i64 (i : Int))
    rwa [World.size_alloc, s2] at this
  have k3 : Kp w2 w' := by rw [hw']; exact ((Kp.rfl' w2).new _).new _
  have s3 : w'.heap.size = w.heap.size + 4 := by rw [hw']; simp [s2]
  have d2 : Boxed w' (w.heap.size + 2) 22 (.slice A n d) := by rw [hw']; exact d0.alloc _
  have kw := k2.trans k3
  have M0 : MinAt w n p i j f [] w' := ⟨⟨_, fun _ => 0, fun _ => 0, boxed_kp b1 k3, ownM_none _ _ _ _⟩, boxed_kp c0 k3, d1⟩
  rw [s2]
  clear hw' d0 b1 c0 k2 k3
  go_wp2_with fail
  refine (wpIn_wide (n := 9)).1 (wpIn_rangeFunc_ownG (F := Fence.wide) rfl (Nat.le_add_left 1 8) (gf := 85) (lb := #[.pointer (some ⟨w.heap.size + 2, 0, none⟩), .pointer (some ⟨w.heap.size + 3, 0, none⟩)]) rfl trivial (enters_of Tryd.func85 (by kernel_rfl) rfl)
    (othersM_stops 8 (Nat.le_add_left 1 7) (w.heap.size + 2) (w.heap.size + 3) w.heap.size n i d A n R D (by omega) hi6 w' (by omega) (by omega) (by omega) d2.cell d1.cell (fun x hx => by
      obtain ⟨ad, e, h1, h2, _⟩ := HR.out x hx
      exact ⟨ad, e, h1, (kw.cell (p := ad.add x) (by rw [block_add]; exact h1)).trans h2⟩))
    keepB_t (keepB_b (by omega)) (Below.refl _ _) (fun _ => rfl)
    (fun pre W => MinAt w n p i j f pre W ∧ Below w.heap.size w W)
    (fun _ _ _ => False)
    (OwnFrom.and (Go.Own.from (minAt_own w n p i j f) _) (ownFrom_below (Nat.le_refl _) (by omega)))
    (fun _ _ _ _ _ hs _ _ => hs)
    ⟨M0, kw⟩
    (fun x => { tmps := #[.slice A n d, .int .i64 (i : Int), .int .i64 (j : Int), undef, undef, .pointer (some ⟨w.heap.size, 0, none⟩), .int .i64 0, .nilIface, .pointer (some ⟨w.heap.size + 1, 0, none⟩), .slice (R (x % n)) n (D (x % n)), .slice A n d, .int .i64 (n : Int), .bool false, .slice A n d, .int .i64 (i : Int), .func (.func 85) #[] #[.pointer (some ⟨w.heap.size + 2, 0, none⟩), .pointer (some ⟨w.heap.size + 3, 0, none⟩)], .slice (R (x % n)) n (D (x % n)), undef, undef, undef, undef, undef, undef, undef, undef, undef, undef, undef], defers := [] }) ?assign ?body ?done ?stop)
  case assign =>
    intro l x W K hK
    unfold headAt
    gi_wp2
    exact hK
  case body =>
    rintro l pre x W ⟨⟨⟨v, G, C, hv, ho⟩, hcj, hri⟩, hB⟩ hlt
    have hy : x % n < n := Nat.mod_lt _ hn0
    obtain ⟨ad, _, hadl, _, lr⟩ := HR.out (x % n) hy
    obtain ⟨wd, hwd⟩ : ∃ x, x = W.drew := ⟨_, rfl⟩
    have kd : Kp W wd := by rw [hwd]; exact (Kp.rfl' W).drewN 1
    have FIN := Lib.hid (fun (w4 w6 : World) (tmp : Obj) (vg vc : Nat) (G' C' : Nat → Nat) (k4 : Kp wd w4) (hg : (w4.alloc tmp).grownBy w6 v.ownBlock) (h6 : OwnM w6 w.heap.size (.slice (some ⟨vg, 0, none⟩) (pre.length + 1) vc) G' C' (mrows n p j f pre ++ [Mx.row p fun b => ((f (x % n) (Mx.sk j b)).val : Int)])) =>
      min_fin (B := w'.heap.size) hB kd k4 hv ho hcj hri hg h6)
    have hkw := hB.trans (kd.mono hB.size)
    have SK := Lib.hid (fun (w4 : World) (k : Kp wd w4) => (show w4.cell? ⟨w.heap.size + 1, 0, none⟩ = some v ∧ w4.cell? ⟨w.heap.size, 0, none⟩ = some (.int .i64 (j : Int)) from
      ⟨(boxed_kp hv (kd.trans k)).cell, (boxed_kp hcj (kd.trans k)).cell⟩))
    have OT := Lib.hid (fun w4 => others_any (R (x % n)) n (D (x % n)) (j : Int) w4)
    have L3 := Lib.hid (fun (w3 : World) (h : w3 = (wd.alloc (.cells #[.slice (R (x % n)) n (D (x % n))] 23)).alloc (.cells #[.int .i64 (j : Int)] 3)) =>
      (show Kp wd w3 ∧ w3.cell? ⟨wd.heap.size, 0, none⟩ = some (.slice (R (x % n)) n (D (x % n))) ∧ w3.cell? ⟨wd.heap.size + 1, 0, none⟩ = some (.int .i64 (j : Int)) by
        subst h
        refine ⟨((Kp.rfl' wd).new _).new _, ((Boxed.new wd 23 (.slice (R (x % n)) n (D (x % n)))).alloc _).cell, ?_⟩
        have := (Boxed.new (wd.alloc (.cells #[.slice (R (x % n)) n (D (x % n))] 23)) 3 (.int .i64 (j : Int))).cell
        rwa [World.size_alloc] at this))
    have COL := Lib.hid (fun (w3 : World) (k : Kp wd w3) (h1 : w3.cell? ⟨wd.heap.size, 0, none⟩ = some (.slice (R (x % n)) n (D (x % n)))) (h2 : w3.cell? ⟨wd.heap.size + 1, 0, none⟩ = some (.int .i64 (j : Int))) =>
      (show Calls Tryd.prog 73 #[.func (.func 87) #[] #[.pointer (some ⟨wd.heap.size, 0, none⟩), .pointer (some ⟨wd.heap.size + 1, 0, none⟩)]] w3 fun e w4 =>
          ∃ g gc, e = .returned (.slice (some ⟨g, 0, none⟩) p gc) ∧ Own w4 w.heap.size (.slice (some ⟨g, 0, none⟩) p gc) (Mx.row p fun b => ((f (x % n) (Mx.sk j b)).val : Int)) ∧ Kp wd w4 ∧ ∀ a, a < (mrows n p j f pre).length → G a ≠ g from
        (collect_any wd.heap.size (wd.heap.size + 1) n j (D (x % n)) (R (x % n)) _ (by omega) hj6 w3 h1 h2 (lr.keep (Below.trans hkw (k.mono hkw.size)))).mono fun e w4 ⟨u, he, hu, hk⟩ => by
          rw [show ct j n = p by rw [HN.out]; exact ct_end HJ.out] at hu
          obtain ⟨g, gc, rfl, hg, _⟩ := own_some hu (by rw [Mx.len_row]; exact HP0.out)
          rw [Mx.len_row] at he hu
          have hsz := k.size
          have hsz2 := hkw.size
          exact ⟨g, gc, he, hu.from (by omega), k.trans hk, fun a hal => by have := (ho.lt hal).2; have := kd.size; omega⟩))
    have PM := Lib.hid (fun (w4 : World) (k : Kp wd w4) (o : Obj) => ((ho.kp kd).kp k).new o)
    have HLE := Lib.hid (show (mrows n p j f pre).length + 1 ≤ 1000000 by rw [mrows_len]; omega)
    have HSZ := Lib.hid (fun (w4 : World) (k : Kp wd w4) (o : Obj) => (show w.heap.size ≤ (w4.alloc o).heap.size from Nat.le_trans hkw.size (Nat.le_trans k.size ((Kp.rfl' w4).new o).size)))
    have OS := Lib.hid (fun (v' : Value) (w6 : World) (G' C' : Nat → Nat) (h : OwnM w6 w.heap.size v' G' C' (mrows n p j f pre ++ [Mx.row p fun b => ((f (x % n) (Mx.sk j b)).val : Int)])) =>
      (show ∃ vg vc, v' = .slice (some ⟨vg, 0, none⟩) (pre.length + 1) vc from by
        have ht := h.top
        rw [List.length_append, List.length_singleton, mrows_len] at ht
        exact ownsRow_succ ht))
    have BX := Lib.hid (fun (w4 w6 : World) (tmp : Obj) (k : Kp wd w4) (hg : (w4.alloc tmp).grownBy w6 v.ownBlock) => (show w6.cell? ⟨w.heap.size + 1, 0, none⟩ = some v ∧ w6.frozen? ⟨w.heap.size + 1, 0, none⟩ = false from by
      have b4 := (boxed_kp hv (kd.trans k)).alloc tmp
      have b6 := b4.kept hg (b4.not_row (by decide) (((ho.kp kd).kp k).new tmp).top)
      exact ⟨b6.cell, b6.frozen⟩))
    generalize x % n = y at *
    clear hv ho hcj hri hB kd hkw lr hadl
    refine wpIn_block ?_
    refine wpIn_region_any (by kernel_rfl) (any_in (by kernel_rfl) _ _ _ _ ?_)
    change wpAny _ _ _ _ _ _ _ (World.drew W)
    rw [← hwd]
    clear hwd
    refine wpAny_take (i := 1) (v := .slice (R y) n (D y)) rfl (by kernel_rfl) (by kernel_rfl) (by kernel_rfl) (fun _ _ _ h => by cases h.1) (Or.inl ⟨by rfl, ?_⟩) ?_
    · intro w; go_simp
    try dsimp only [Act.put, List.setIfInBounds_toArray, List.set_cons_zero, List.set_cons_succ]
    refine wpAny_ready (rs := [0, 2]) (by kernel_rfl) (by simp) ?_
    refine AllReady.cons rfl (fun K hK => ?_) (AllReady.cons rfl (fun K hK => ?_) AllReady.nil)
    · have HK := Lib.hid hK
      clear hK
      have hcl := (SK.out _ (Kp.rfl' _)).1
      go_simp
      clear hcl
      refine HK.out _ _ ?_
      (try clear HK K); try dsimp only [Act.put, List.setIfInBounds_toArray, List.set_cons_zero, List.set_cons_succ]
      refine wpAny_ready (rs := [2]) (by kernel_rfl) (by simp) ?_
      refine AllReady.cons rfl (fun K hK => ?_) AllReady.nil
      · have HK := Lib.hid hK
        clear hK
        have hcl := (SK.out _ (Kp.rfl' _)).2
        go_simp
        clear hcl
        refine HK.out _ _ ?_
        (try clear HK K); try dsimp only [Act.put, List.setIfInBounds_toArray, List.set_cons_zero, List.set_cons_succ]
        refine wpAny_ready (rs := [3]) (by kernel_rfl) (by simp) ?_
        refine AllReady.cons rfl (fun K hK => ?_) AllReady.nil
        · have HK := Lib.hid hK
          clear hK
          go_simp
          go_at_call 74; (with_reducible refine (OT.out _).mono ?_); rintro e w3 ⟨rfl, hw3⟩
          obtain ⟨k3, c30, c31⟩ := L3.out w3 hw3
          clear hw3
          go_wp2_with fail
          refine HK.out _ _ ?_
          (try clear HK K); try dsimp only [Act.put, List.setIfInBounds_toArray, List.set_cons_zero, List.set_cons_succ]
          refine wpAny_ready (rs := [4]) (by kernel_rfl) (by simp) ?_
          refine AllReady.cons rfl (fun K hK => ?_) AllReady.nil
          · have HK := Lib.hid hK
            clear hK
            go_simp
            go_at_call 73; (with_reducible refine (COL.out w3 k3 c30 c31).mono ?_); rintro e w4 ⟨g, gc, rfl, o4, k4, hap⟩
            go_wp2_with fail
            refine HK.out _ _ ?_
            (try clear HK K); try dsimp only [Act.put, List.setIfInBounds_toArray, List.set_cons_zero, List.set_cons_succ]
            refine wpAny_ready (rs := [5]) (by kernel_rfl) (by simp) ?_
            refine AllReady.cons rfl (fun K hK => ?_) AllReady.nil
            · have HK := Lib.hid hK
              clear hK
              go_simp
              refine HK.out _ _ ?_
              (try clear HK K); try dsimp only [Act.put, List.setIfInBounds_toArray, List.set_cons_zero, List.set_cons_succ]
              refine wpAny_ready (rs := [6]) (by kernel_rfl) (by simp) ?_
              refine AllReady.cons rfl (fun K hK => ?_) AllReady.nil
              · have HK := Lib.hid hK
                clear hK
                refine step_wanted rfl (wp_pushM _ _ rfl w.heap.size v G C _ _ g p gc w4.heap.size 1 (Mx.len_row _ _) rfl rfl (PM.out w4 k4 _) (cell_made _ _ _ _ 0 rfl) (o4.new _) hap HLE.out (HSZ.out w4 k4 _) fun v' w6 G' C' hom hgr => ?_)
                obtain ⟨vg, vc, rfl⟩ := OS.out v' w6 G' C' hom
                obtain ⟨hc6, hf6⟩ := BX.out w4 w6 _ k4 hgr
                refine HK.out _ _ ?_
                (try clear HK K); try dsimp only [Act.put, List.setIfInBounds_toArray, List.set_cons_zero, List.set_cons_succ]
                refine wpAny_ready (rs := [7]) (by kernel_rfl) (by simp) ?_
                refine AllReady.cons rfl (fun K hK => ?_) AllReady.nil
                · have HK := Lib.hid hK
                  clear hK
                  go_simp
                  refine HK.out _ _ ?_
                  (try clear HK K); try dsimp only [Act.put, List.setIfInBounds_toArray, List.set_cons_zero, List.set_cons_succ]
                  refine wpAny_done (by kernel_rfl) ?_ _
                  exact ⟨rfl, FIN.out w4 w6 _ _ _ _ _ k4 hgr hom⟩
    · have HK := Lib.hid hK
      clear hK
      have hcl := (SK.out _ (Kp.rfl' _)).2
      go_simp
      clear hcl
      refine HK.out _ _ ?_
      (try clear HK K); try dsimp only [Act.put, List.setIfInBounds_toArray, List.set_cons_zero, List.set_cons_succ]
      refine wpAny_ready (rs := [0, 3]) (by kernel_rfl) (by simp) ?_
      refine AllReady.cons rfl (fun K hK => ?_) (AllReady.cons rfl (fun K hK => ?_) AllReady.nil)
      · have HK := Lib.hid hK
        clear hK
        have hcl := (SK.out _ (Kp.rfl' _)).1
        go_simp
        clear hcl
        refine HK.out _ _ ?_
        (try clear HK K); try dsimp only [Act.put, List.setIfInBounds_toArray, List.set_cons_zero, List.set_cons_succ]
        refine wpAny_ready (rs := [3]) (by kernel_rfl) (by simp) ?_
        refine AllReady.cons rfl (fun K hK => ?_) AllReady.nil
        · have HK := Lib.hid hK
          clear hK
          go_simp
          go_at_call 74; (with_reducible refine (OT.out _).mono ?_); rintro e w3 ⟨rfl, hw3⟩
          obtain ⟨k3, c30, c31⟩ := L3.out w3 hw3
          clear hw3
          go_wp2_with fail
          refine HK.out _ _ ?_
          (try clear HK K); try dsimp only [Act.put, List.setIfInBounds_toArray, List.set_cons_zero, List.set_cons_succ]
          refine wpAny_ready (rs := [4]) (by kernel_rfl) (by simp) ?_
          refine AllReady.cons rfl (fun K hK => ?_) AllReady.nil
          · have HK := Lib.hid hK
            clear hK
            go_simp
            go_at_call 73; (with_reducible refine (COL.out w3 k3 c30 c31).mono ?_); rintro e w4 ⟨g, gc, rfl, o4, k4, hap⟩
            go_wp2_with fail
            refine HK.out _ _ ?_
            (try clear HK K); try dsimp only [Act.put, List.setIfInBounds_toArray, List.set_cons_zero, List.set_cons_succ]
            refine wpAny_ready (rs := [5]) (by kernel_rfl) (by simp) ?_
            refine AllReady.cons rfl (fun K hK => ?_) AllReady.nil
            · have HK := Lib.hid hK
              clear hK
              go_simp
              refine HK.out _ _ ?_
              (try clear HK K); try dsimp only [Act.put, List.setIfInBounds_toArray, List.set_cons_zero, List.set_cons_succ]
              refine wpAny_ready (rs := [6]) (by kernel_rfl) (by simp) ?_
              refine AllReady.cons rfl (fun K hK => ?_) AllReady.nil
              · have HK := Lib.hid hK
                clear hK
                refine step_wanted rfl (wp_pushM _ _ rfl w.heap.size v G C _ _ g p gc w4.heap.size 1 (Mx.len_row _ _) rfl rfl (PM.out w4 k4 _) (cell_made _ _ _ _ 0 rfl) (o4.new _) hap HLE.out (HSZ.out w4 k4 _) fun v' w6 G' C' hom hgr => ?_)
                obtain ⟨vg, vc, rfl⟩ := OS.out v' w6 G' C' hom
                obtain ⟨hc6, hf6⟩ := BX.out w4 w6 _ k4 hgr
                refine HK.out _ _ ?_
                (try clear HK K); try dsimp only [Act.put, List.setIfInBounds_toArray, List.set_cons_zero, List.set_cons_succ]
                refine wpAny_ready (rs := [7]) (by kernel_rfl) (by simp) ?_
                refine AllReady.cons rfl (fun K hK => ?_) AllReady.nil
                · have HK := Lib.hid hK
                  clear hK
                  go_simp
                  refine HK.out _ _ ?_
                  (try clear HK K); try dsimp only [Act.put, List.setIfInBounds_toArray, List.set_cons_zero, List.set_cons_succ]
                  refine wpAny_done (by kernel_rfl) ?_ _
                  exact ⟨rfl, FIN.out w4 w6 _ _ _ _ _ k4 hgr hom⟩
      · have HK := Lib.hid hK
        clear hK
        go_simp
        go_at_call 74; (with_reducible refine (OT.out _).mono ?_); rintro e w3 ⟨rfl, hw3⟩
        obtain ⟨k3, c30, c31⟩ := L3.out w3 hw3
        clear hw3
        go_wp2_with fail
        refine HK.out _ _ ?_
        (try clear HK K); try dsimp only [Act.put, List.setIfInBounds_toArray, List.set_cons_zero, List.set_cons_succ]
        refine wpAny_ready (rs := [0, 4]) (by kernel_rfl) (by simp) ?_
        refine AllReady.cons rfl (fun K hK => ?_) (AllReady.cons rfl (fun K hK => ?_) AllReady.nil)
        · have HK := Lib.hid hK
          clear hK
          have hcl := (SK.out _ k3).1
          go_simp
          clear hcl
          refine HK.out _ _ ?_
          (try clear HK K); try dsimp only [Act.put, List.setIfInBounds_toArray, List.set_cons_zero, List.set_cons_succ]
          refine wpAny_ready (rs := [4]) (by kernel_rfl) (by simp) ?_
          refine AllReady.cons rfl (fun K hK => ?_) AllReady.nil
          · have HK := Lib.hid hK
            clear hK
            go_simp
            go_at_call 73; (with_reducible refine (COL.out w3 k3 c30 c31).mono ?_); rintro e w4 ⟨g, gc, rfl, o4, k4, hap⟩
            go_wp2_with fail
            refine HK.out _ _ ?_
            (try clear HK K); try dsimp only [Act.put, List.setIfInBounds_toArray, List.set_cons_zero, List.set_cons_succ]
            refine wpAny_ready (rs := [5]) (by kernel_rfl) (by simp) ?_
            refine AllReady.cons rfl (fun K hK => ?_) AllReady.nil
            · have HK := Lib.hid hK
              clear hK
              go_simp
              refine HK.out _ _ ?_
              (try clear HK K); try dsimp only [Act.put, List.setIfInBounds_toArray, List.set_cons_zero, List.set_cons_succ]
              refine wpAny_ready (rs := [6]) (by kernel_rfl) (by simp) ?_
              refine AllReady.cons rfl (fun K hK => ?_) AllReady.nil
              · have HK := Lib.hid hK
                clear hK
                refine step_wanted rfl (wp_pushM _ _ rfl w.heap.size v G C _ _ g p gc w4.heap.size 1 (Mx.len_row _ _) rfl rfl (PM.out w4 k4 _) (cell_made _ _ _ _ 0 rfl) (o4.new _) hap HLE.out (HSZ.out w4 k4 _) fun v' w6 G' C' hom hgr => ?_)
                obtain ⟨vg, vc, rfl⟩ := OS.out v' w6 G' C' hom
                obtain ⟨hc6, hf6⟩ := BX.out w4 w6 _ k4 hgr
                refine HK.out _ _ ?_
                (try clear HK K); try dsimp only [Act.put, List.setIfInBounds_toArray, List.set_cons_zero, List.set_cons_succ]
                refine wpAny_ready (rs := [7]) (by kernel_rfl) (by simp) ?_
                refine AllReady.cons rfl (fun K hK => ?_) AllReady.nil
                · have HK := Lib.hid hK
                  clear hK
                  go_simp
                  refine HK.out _ _ ?_
                  (try clear HK K); try dsimp only [Act.put, List.setIfInBounds_toArray, List.set_cons_zero, List.set_cons_succ]
                  refine wpAny_done (by kernel_rfl) ?_ _
                  exact ⟨rfl, FIN.out w4 w6 _ _ _ _ _ k4 hgr hom⟩
        · have HK := Lib.hid hK
          clear hK
          go_simp
          go_at_call 73; (with_reducible refine (COL.out w3 k3 c30 c31).mono ?_); rintro e w4 ⟨g, gc, rfl, o4, k4, hap⟩
          go_wp2_with fail
          refine HK.out _ _ ?_
          (try clear HK K); try dsimp only [Act.put, List.setIfInBounds_toArray, List.set_cons_zero, List.set_cons_succ]
          refine wpAny_ready (rs := [0, 5]) (by kernel_rfl) (by simp) ?_
          refine AllReady.cons rfl (fun K hK => ?_) (AllReady.cons rfl (fun K hK => ?_) AllReady.nil)
          · have HK := Lib.hid hK
            clear hK
            have hcl := (SK.out _ k4).1
            go_simp
            clear hcl
            refine HK.out _ _ ?_
            (try clear HK K); try dsimp only [Act.put, List.setIfInBounds_toArray, List.set_cons_zero, List.set_cons_succ]
            refine wpAny_ready (rs := [5]) (by kernel_rfl) (by simp) ?_
            refine AllReady.cons rfl (fun K hK => ?_) AllReady.nil
            · have HK := Lib.hid hK
              clear hK
              go_simp
              refine HK.out _ _ ?_
              (try clear HK K); try dsimp only [Act.put, List.setIfInBounds_toArray, List.set_cons_zero, List.set_cons_succ]
              refine wpAny_ready (rs := [6]) (by kernel_rfl) (by simp) ?_
              refine AllReady.cons rfl (fun K hK => ?_) AllReady.nil
              · have HK := Lib.hid hK
                clear hK
                refine step_wanted rfl (wp_pushM _ _ rfl w.heap.size v G C _ _ g p gc w4.heap.size 1 (Mx.len_row _ _) rfl rfl (PM.out w4 k4 _) (cell_made _ _ _ _ 0 rfl) (o4.new _) hap HLE.out (HSZ.out w4 k4 _) fun v' w6 G' C' hom hgr => ?_)
                obtain ⟨vg, vc, rfl⟩ := OS.out v' w6 G' C' hom
                obtain ⟨hc6, hf6⟩ := BX.out w4 w6 _ k4 hgr
                refine HK.out _ _ ?_
                (try clear HK K); try dsimp only [Act.put, List.setIfInBounds_toArray, List.set_cons_zero, List.set_cons_succ]
                refine wpAny_ready (rs := [7]) (by kernel_rfl) (by simp) ?_
                refine AllReady.cons rfl (fun K hK => ?_) AllReady.nil
                · have HK := Lib.hid hK
                  clear hK
                  go_simp
                  refine HK.out _ _ ?_
                  (try clear HK K); try dsimp only [Act.put, List.setIfInBounds_toArray, List.set_cons_zero, List.set_cons_succ]
                  refine wpAny_done (by kernel_rfl) ?_ _
                  exact ⟨rfl, FIN.out w4 w6 _ _ _ _ _ k4 hgr hom⟩
          · have HK := Lib.hid hK
            clear hK
            go_simp
            refine HK.out _ _ ?_
            (try clear HK K); try dsimp only [Act.put, List.setIfInBounds_toArray, List.set_cons_zero, List.set_cons_succ]
            refine wpAny_ready (rs := [0]) (by kernel_rfl) (by simp) ?_
            refine AllReady.cons rfl (fun K hK => ?_) AllReady.nil
            · have HK := Lib.hid hK
              clear hK
              have hcl := (SK.out _ (k4.new (.cells #[.slice (some ⟨g, 0, none⟩) p gc] 23))).1
              go_simp
              clear hcl
              refine HK.out _ _ ?_
              (try clear HK K); try dsimp only [Act.put, List.setIfInBounds_toArray, List.set_cons_zero, List.set_cons_succ]
              refine wpAny_ready (rs := [6]) (by kernel_rfl) (by simp) ?_
              refine AllReady.cons rfl (fun K hK => ?_) AllReady.nil
              · have HK := Lib.hid hK
                clear hK
                refine step_wanted rfl (wp_pushM _ _ rfl w.heap.size v G C _ _ g p gc w4.heap.size 1 (Mx.len_row _ _) rfl rfl (PM.out w4 k4 _) (cell_made _ _ _ _ 0 rfl) (o4.new _) hap HLE.out (HSZ.out w4 k4 _) fun v' w6 G' C' hom hgr => ?_)
                obtain ⟨vg, vc, rfl⟩ := OS.out v' w6 G' C' hom
                obtain ⟨hc6, hf6⟩ := BX.out w4 w6 _ k4 hgr
                refine HK.out _ _ ?_
                (try clear HK K); try dsimp only [Act.put, List.setIfInBounds_toArray, List.set_cons_zero, List.set_cons_succ]
                refine wpAny_ready (rs := [7]) (by kernel_rfl) (by simp) ?_
                refine AllReady.cons rfl (fun K hK => ?_) AllReady.nil
                · have HK := Lib.hid hK
                  clear hK
                  go_simp
                  refine HK.out _ _ ?_
                  (try clear HK K); try dsimp only [Act.put, List.setIfInBounds_toArray, List.set_cons_zero, List.set_cons_succ]
                  refine wpAny_done (by kernel_rfl) ?_ _
                  exact ⟨rfl, FIN.out w4 w6 _ _ _ _ _ k4 hgr hom⟩
  case done =>
    rintro D' ys W hD rfl ⟨⟨⟨v, G, C, hv, ho⟩, _, _⟩, hB⟩ hK
    rw [ALL.out] at ho
    obtain ⟨A', c', rfl, hl, _⟩ := ho.lies
    rw [Mx.len_matl] at hv
    have hcv := hv.cell
    have HB := Lib.hid hB
    have hDl := (Array.getElem?_eq_some_iff.1 hK).1
    have O1 := Lib.hid (OF.out A' c' W hl)
    have HD := Lib.hid (show w.heap.size ≤ D' by omega)
    clear hv ho hl hB hD
    go_wp2_with fail
    refine (O1.out).mono ?_; rintro e w5 ⟨rfl, k5⟩
    have hK5 := (k5.block D' hDl).trans hK
    have HB5 := Lib.hid (HB.out.trans (k5.mono HB.out.size))
    clear k5 hK
    go_wp2_with fail
    refine ⟨by simp, .inl ⟨_, _, rfl, run_takeDeferred hK5, ?_⟩⟩
    refine ⟨.tuple #[.int .i64 (dd.val : Int), .nilIface], by simp [results, Tryd.results55, go_sem], rfl, HB5.out.trans (belowK_b (w := w) (Nat.le_refl _) w5 D' _ _ HD.out hK5 rfl rfl)⟩
  case stop =>
    rintro D c pre W _ _ h _
    exact h.elim

end Go.Proofs.YtofdhdnffkhojaaDoor
