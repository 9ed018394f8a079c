/- Contracts of package paths, second part: full, rises, riseFrom. -/
import Derived.RangeFuncWrites
import Derived.Test.YtolkdbijenbchaaPhC1
import Derived.Test.YtolkdbijenbchaaLow
import Derived.Test.YtolkdbijenbchaaRnd
namespace Go.Proofs.Ytolkdbijenbchaa
open Go.ChangeShapes Go.WideShapes Go.ChangeAt Go.RowKit Go.Shelf
set_option linter.unusedVariables false
attribute [local go_sem] Oper.semAt_some

/-- Three heights as a value. -/
abbrev hv (a b c : Nat) : Value := .agg #[.int .i64 (a : Int), .int .i64 (b : Int), .int .i64 (c : Int)]
/-- Three heights as a row. -/
abbrev hr (a b c : Nat) : List Int := [(a : Int), (b : Int), (c : Int)]
theorem Cl.kept {ty : TypeId} {T : Nat → Prop} {w w' : World} {g : Nat} {l : List Int} (h : Cl ty w g l) (k : Kept T w w') (ht : ¬ T g) : Cl ty w' g l := by
  unfold Cl
  rw [k.block g h.lt ht]; exact h
theorem Cl.x0 {ty : TypeId} {w : World} {g a b c : Nat} (h : Cl ty w g (hr a b c)) : w.cell? ⟨g, 0, none⟩ = some (.int .i64 (a : Int)) := h.cell 0 (by decide : 0 < 3)
theorem Cl.x1 {ty : TypeId} {w : World} {g a b c : Nat} (h : Cl ty w g (hr a b c)) : w.cell? ⟨g, 1, none⟩ = some (.int .i64 (b : Int)) := h.cell 1 (by decide : 1 < 3)
theorem Cl.x2 {ty : TypeId} {w : World} {g a b c : Nat} (h : Cl ty w g (hr a b c)) : w.cell? ⟨g, 2, none⟩ = some (.int .i64 (c : Int)) := h.cell 2 (by decide : 2 < 3)
/-- What a cell holds, as a natural number. -/
def natAt (w : World) (p : Addr) : Nat := match w.cell? p with | some (.int _ x) => x.toNat | _ => 0
theorem natAt_is {w : World} {p : Addr} {x : Nat} (h : w.cell? p = some (.int .i64 (x : Int))) : natAt w p = x := by
  unfold natAt; rw [h]; exact Int.toNat_natCast x

theorem rises_any (a b c t u v : Nat) (w : World) :
    Calls Try.prog 23 #[hv a b c, hv t u v] w fun e w' =>
      e = .returned (.func (.func 26) #[] #[.pointer (some ⟨w.heap.size, 0, none⟩), .pointer (some ⟨w.heap.size + 1, 0, none⟩)]) ∧
        w' = (w.alloc (.cells (ints (hr a b c)).toArray 38)).alloc (.cells (ints (hr t u v)).toArray 38) := by
  go_enter Try.func23, Try.ntmps23
  go_wp2
  go_ret
  exact ⟨rfl, rfl⟩

abbrev H3' := Nat × Nat × Nat
def hEnc (x : List Nat) : Array Value := #[hv (x.getD 0 0) (x.getD 1 0) (x.getD 2 0)]
/-- What is asked of the one who takes the heights. -/
def Taker (l : Nat) (T : Nat → Prop) (B N : Nat) (J : List (List Nat) → World → Prop) : Prop :=
  (∀ k, T k → k < B) ∧ (∀ s A A', J s A → Below B A A' → J s A') ∧
    ∀ pre x W1, J pre W1 → B ≤ W1.heap.size → Zx.H3 x → pre.length < N → YieldAt Fence.wide 0 Try.prog l (hEnc x) W1 fun e W' => e = .returned (.bool true) ∧ J (pre ++ [x]) W' ∧ Kept T W1 W'

set_option maxRecDepth 100000 in
set_option maxHeartbeats 1600000 in
theorem rise3 (l : Nat) (T : Nat → Prop) (B N : Nat) (J : List (List Nat) → World → Prop) (HT : Taker l T B N J) (t u v a b c : Nat) (st : Zx.H3 [t, u, v]) (sh : Zx.H3 [a, b, c]) (pre : List (List Nat)) (W : World) (hj : J pre W) (hB : B ≤ W.heap.size) (hN : pre.length + 1 ≤ N) :
    CallsIn Fence.wide 0 Try.prog 27 #[.int .i64 3, hv a b c, hv t u v, .func (.yield l) #[] #[]] W fun e W' => e = .returned (.bool true) ∧ J (pre ++ Zx.rsn [t, u, v] 0 3 [a, b, c]) W' ∧ Kept T W W' := by
  obtain ⟨W1, hW1⟩ : ∃ W1, W1 = (W.alloc (.cells #[.int .i64 (a : Int), .int .i64 (b : Int), .int .i64 (c : Int)] 38)).alloc (.cells #[.int .i64 (t : Int), .int .i64 (u : Int), .int .i64 (v : Int)] 38) := ⟨_, rfl⟩
  have k1 : Kp W W1 := by rw [hW1]; exact ((Kp.rfl' W).new _).new _
  have c1 : Cl 38 W1 W.heap.size (hr a b c) := by rw [hW1]; exact (Cl.made W (hr a b c)).new _
  obtain ⟨fn, tmps, assign, body, hy, hR⟩ := HT.2.2 pre [a, b, c] W1 (HT.2.1 _ _ _ hj (k1.mono hB)) (Nat.le_trans hB k1.size) sh hN
  have y0 := c1.x0
  have y1 := c1.x1
  have y2 := c1.x2
  change Sem.run _ (Instr.yield l #[hv a b c]) W1 = _ at hy
  rw [hW1] at y0 y1 y2 hy hR k1
  have RR := Lib.hid hR
  have K1 := Lib.hid k1
  clear hR k1 c1 HT hj hB hN sh st hW1
  refine callsIn_of_wp Try.func27 rfl trivial ?_ rfl
  simp only [Try.ntmps27, List.size_toArray, List.length_cons, List.length_nil, Nat.reduceAdd, Nat.reduceSub, Array.replicate_succ, Array.replicate_zero, List.push_toArray, List.append_toArray, List.nil_append, List.cons_append]
  gi_wp2
  refine ⟨rfl, ?_⟩
  refine (RR.out).mono ?_
  rintro e W3 ⟨rfl, hJ3, hk3⟩
  have J3 := Lib.hid hJ3
  have K3 := Lib.hid (Kept.trans (Kept.of K1.out) hk3)
  clear hJ3 hk3 hy y0 y1 y2
  gi_wp2
  go_ret
  exact ⟨rfl, J3.out, K3.out⟩

set_option maxRecDepth 100000 in
set_option maxHeartbeats 3200000 in
theorem rise2 (l : Nat) (T : Nat → Prop) (B N : Nat) (J : List (List Nat) → World → Prop) (HT : Taker l T B N J) (t u v a b c : Nat) (st : Zx.H3 [t, u, v]) (sh : Zx.H3 [a, b, c]) (pre : List (List Nat)) (W : World) (hj : J pre W) (hB : B ≤ W.heap.size) (hN : pre.length + (Zx.rsn [t, u, v] 1 2 [a, b, c]).length ≤ N) :
    CallsIn Fence.wide 0 Try.prog 27 #[.int .i64 2, hv a b c, hv t u v, .func (.yield l) #[] #[]] W fun e W' => e = .returned (.bool true) ∧ J (pre ++ Zx.rsn [t, u, v] 1 2 [a, b, c]) W' ∧ Kept T W W' := by
  obtain ⟨m, hm⟩ : ∃ m, m = v + 1 - c := ⟨_, rfl⟩
  obtain ⟨G, hG⟩ : ∃ G, G = Zx.rlt (Zx.rsn [t, u, v] 0 3) 2 [a, b, c] := ⟨_, rfl⟩
  have eR : Zx.rsn [t, u, v] 1 2 [a, b, c] = G m := by rw [hG, hm]; rfl
  have NX := Lib.hid (show ∀ n, G (n + 1) = G n ++ Zx.rsn [t, u, v] 0 3 [a, b, c + n] from fun n => by rw [hG]; rfl)
  have G0 := Lib.hid (show G 0 = [] by rw [hG]; rfl)
  have LN := Lib.hid (show ∀ n, n < m → pre.length + (G (n + 1)).length ≤ N from fun n hn => by
    rw [eR] at hN
    have := Zx.rlt_mono (f := Zx.rsn [t, u, v] 0 3) (i := 2) (h := [a, b, c]) (show n + 1 ≤ m by omega)
    rw [← hG] at this
    omega)
  rw [eR]
  clear hG eR hN
  have ht9 : v ≤ 9 := by have := st.le 2; exact this
  have hx9 : c ≤ 9 := by have := sh.le 2; exact this
  have SH := Lib.hid (show ∀ y, y ≤ 9 → Zx.H3 [a, b, y] from fun y hy => by have := sh.set (i := 2) hy; exact this)
  have ST := Lib.hid st
  have TK := Lib.hid HT
  have nT := Lib.hid (show ∀ g, W.heap.size ≤ g → ¬ T g from fun g hg h => by have := HT.1 g h; omega)
  obtain ⟨W1, hW1⟩ : ∃ W1, W1 = (W.alloc (.cells #[.int .i64 (a : Int), .int .i64 (b : Int), .int .i64 (c : Int)] 38)).alloc (.cells #[.int .i64 (t : Int), .int .i64 (u : Int), .int .i64 (v : Int)] 38) := ⟨_, rfl⟩
  have k1 : Kp W W1 := by rw [hW1]; exact ((Kp.rfl' W).new _).new _
  have s1 : W1.heap.size = W.heap.size + 2 := by rw [hW1]; simp
  have c1 : Cl 38 W1 W.heap.size (hr a b c) := by rw [hW1]; exact (Cl.made W (hr a b c)).new _
  have c2 : Cl 38 W1 (W.heap.size + 1) (hr t u v) := by
    have : Cl 38 ((W.alloc (.cells #[.int .i64 (a : Int), .int .i64 (b : Int), .int .i64 (c : Int)] 38)).alloc (.cells #[.int .i64 (t : Int), .int .i64 (u : Int), .int .i64 (v : Int)] 38)) _ (hr t u v) := Cl.made (ty := 38) (W.alloc (.cells #[.int .i64 (a : Int), .int .i64 (b : Int), .int .i64 (c : Int)] 38)) (hr t u v)
    rw [← hW1] at this
    rwa [World.size_alloc] at this
  have j1 := HT.2.1 _ _ _ hj (k1.mono hB)
  have ST0 := Lib.hid (show J (pre ++ G 0) W1 ∧ Cl 38 W1 W.heap.size (hr a b (c + 0)) ∧ Cl 38 W1 (W.heap.size + 1) (hr t u v) ∧ Kept T W W1 ∧ W.heap.size + 2 ≤ W1.heap.size from
    ⟨by rw [G0.out, List.append_nil]; exact j1, c1, c2, Kept.of k1, Nat.le_of_eq s1.symm⟩)
  have y0 := c1.x0
  have y1 := c1.x1
  have y2 := c1.x2
  have z0 := c2.x0
  have z1 := c2.x1
  have z2 := c2.x2
  rw [hW1] at y0 y1 y2 z0 z1 z2
  rw [hW1] at ST0
  clear HT st sh hj k1 s1 c1 c2 j1 hW1
  refine callsIn_of_wp Try.func27 rfl trivial ?_ rfl
  simp only [Try.ntmps27, List.size_toArray, List.length_cons, List.length_nil, Nat.reduceAdd, Nat.reduceSub, Array.replicate_succ, Array.replicate_zero, List.push_toArray, List.append_toArray, List.nil_append, List.cons_append]
  gi_wp2
  gi_loopw [] (fun wr => ∃ n, n ≤ m ∧ J (pre ++ G n) wr ∧ Cl 38 wr W.heap.size (hr a b (c + n)) ∧ Cl 38 wr (W.heap.size + 1) (hr t u v) ∧ Kept T W wr ∧ W.heap.size + 2 ≤ wr.heap.size) (fun wr => m + c - natAt wr ⟨W.heap.size, 2, none⟩)
  case atStart => exact ⟨0, Nat.zero_le _, ST0.out⟩
  case round =>
    clear ST0 y0 y1 y2 z0 z1 z2
    obtain ⟨n, hn, hJ, h1, h2, h3, h4⟩ := hrel
    obtain ⟨y, hy⟩ : ∃ y, y = c + n := ⟨_, rfl⟩
    rw [← hy] at h1
    have HY := Lib.hid hy
    have y0 := h1.x0
    have y1 := h1.x1
    have y2 := h1.x2
    have z0 := h2.x0
    have z1 := h2.x1
    have z2 := h2.x2
    by_cases hlt : n < m
    · have nx := NX.out n
      have ln := LN.out n hlt
      rw [← hy] at nx
      rw [nx] at ln
      have IH := Lib.hid (rise3 l T B N J TK.out t u v a b y ST.out (SH.out y (by omega)) (pre ++ G n) wr hJ (by omega) (by
        show _ + 1 ≤ N; change _ + (_ ++ [_]).length ≤ N at ln; rw [List.length_append]; rw [List.length_append] at ln; omega))
      rw [List.append_assoc, ← nx] at IH
      have M0 := Lib.hid (natAt_is (w := wr) (p := ⟨W.heap.size, 2, none⟩) (x := y) y2)
      have F1 := Lib.hid h1
      have F2 := Lib.hid h2
      have F3 := Lib.hid h3
      have F4 := Lib.hid h4
      have hc : (y : Int) ≤ (v : Int) := by omega
      have y9 : y ≤ 9 := by omega
      clear hJ h1 h2 h3 h4 nx ln hy
      gi_wp2
      refine ⟨trivial, rfl, ?_⟩
      refine (IH.out).mono ?_
      rintro e W3 ⟨rfl, j3, k3⟩
      have c1 := F1.out.kept k3 (nT.out _ (Nat.le_refl _))
      have c2 := F2.out.kept k3 (nT.out _ (Nat.le_succ _))
      have q0 := c1.x2
      have q1 := c1.free 2
      have E1 := Lib.hid (show Cl 38 (W3.setCell ⟨W.heap.size, 2, none⟩ (.int .i64 ((y : Int) + 1))) W.heap.size (hr a b (y + 1)) from c1.put 2 ((y : Int) + 1))
      have E2 := Lib.hid (show Cl 38 (W3.setCell ⟨W.heap.size, 2, none⟩ (.int .i64 ((y : Int) + 1))) (W.heap.size + 1) (hr t u v) from c2.far (by show W.heap.size + 1 ≠ W.heap.size; omega) _)
      have E3 := Lib.hid (show Below W.heap.size W3 (W3.setCell ⟨W.heap.size, 2, none⟩ (.int .i64 ((y : Int) + 1))) from Below.setCell (Below.refl W.heap.size W3) (p := ⟨W.heap.size, 2, none⟩) (Nat.le_refl _) _)
      have E4 := Lib.hid (show J (pre ++ G (n + 1)) (W3.setCell ⟨W.heap.size, 2, none⟩ (.int .i64 ((y : Int) + 1))) from TK.out.2.1 _ _ _ j3 (E3.out.mono hB))
      have E5 := Lib.hid (show Kept T W (W3.setCell ⟨W.heap.size, 2, none⟩ (.int .i64 ((y : Int) + 1))) from (F3.out.trans k3).next E3.out (Nat.le_refl _))
      have E6 := Lib.hid (show W.heap.size + 2 ≤ (W3.setCell ⟨W.heap.size, 2, none⟩ (.int .i64 ((y : Int) + 1))).heap.size from by have := F4.out; have := k3.size; have := E3.out.size; omega)
      have M1 := Lib.hid (natAt_is (w := W3.setCell ⟨W.heap.size, 2, none⟩ (.int .i64 ((y : Int) + 1))) (p := ⟨W.heap.size, 2, none⟩) (x := y + 1) E1.out.x2)
      have hw : IntKind.i64.wrap ((y : Int) + 1) = (y : Int) + 1 := IntWalk.i64_in _ (by omega)
      clear c1 c2 j3 k3 IH y0 y1 y2 z0 z1 z2
      gi_wp2
      go_roundw
      case rel => exact ⟨n + 1, by omega, E4.out, by rw [← Nat.add_assoc, ← HY.out]; exact E1.out, E2.out, E5.out, E6.out⟩
      case measure =>
        have m0 := M0.out
        have m1 := M1.out
        have hy := HY.out
        rw [m0, m1]; omega
    · obtain rfl : n = m := by omega
      have F2 := Lib.hid hJ
      have F3 := Lib.hid h3
      have hc : (v : Int) < (y : Int) := by omega
      clear hJ h1 h2 h3 h4 hy
      gi_wp2
      go_ret
      exact ⟨rfl, F2.out, F3.out⟩

set_option maxRecDepth 100000 in
set_option maxHeartbeats 3200000 in
theorem rise1 (l : Nat) (T : Nat → Prop) (B N : Nat) (J : List (List Nat) → World → Prop) (HT : Taker l T B N J) (t u v a b c : Nat) (st : Zx.H3 [t, u, v]) (sh : Zx.H3 [a, b, c]) (pre : List (List Nat)) (W : World) (hj : J pre W) (hB : B ≤ W.heap.size) (hN : pre.length + (Zx.rsn [t, u, v] 2 1 [a, b, c]).length ≤ N) :
    CallsIn Fence.wide 0 Try.prog 27 #[.int .i64 1, hv a b c, hv t u v, .func (.yield l) #[] #[]] W fun e W' => e = .returned (.bool true) ∧ J (pre ++ Zx.rsn [t, u, v] 2 1 [a, b, c]) W' ∧ Kept T W W' := by
  obtain ⟨m, hm⟩ : ∃ m, m = min (u + 1) c - b := ⟨_, rfl⟩
  obtain ⟨G, hG⟩ : ∃ G, G = Zx.rlt (Zx.rsn [t, u, v] 1 2) 1 [a, b, c] := ⟨_, rfl⟩
  have eR : Zx.rsn [t, u, v] 2 1 [a, b, c] = G m := by rw [hG, hm]; rfl
  have NX := Lib.hid (show ∀ n, G (n + 1) = G n ++ Zx.rsn [t, u, v] 1 2 [a, b + n, c] from fun n => by rw [hG]; rfl)
  have G0 := Lib.hid (show G 0 = [] by rw [hG]; rfl)
  have LN := Lib.hid (show ∀ n, n < m → pre.length + (G (n + 1)).length ≤ N from fun n hn => by
    rw [eR] at hN
    have := Zx.rlt_mono (f := Zx.rsn [t, u, v] 1 2) (i := 1) (h := [a, b, c]) (show n + 1 ≤ m by omega)
    rw [← hG] at this
    omega)
  rw [eR]
  clear hG eR hN
  have ht9 : u ≤ 9 := by have := st.le 1; exact this
  have hn9 : c ≤ 9 := by have := sh.le 2; exact this
  have hx9 : b ≤ 9 := by have := sh.le 1; exact this
  have SH := Lib.hid (show ∀ y, y ≤ 9 → Zx.H3 [a, y, c] from fun y hy => by have := sh.set (i := 1) hy; exact this)
  have ST := Lib.hid st
  have TK := Lib.hid HT
  have nT := Lib.hid (show ∀ g, W.heap.size ≤ g → ¬ T g from fun g hg h => by have := HT.1 g h; omega)
  obtain ⟨W1, hW1⟩ : ∃ W1, W1 = (W.alloc (.cells #[.int .i64 (a : Int), .int .i64 (b : Int), .int .i64 (c : Int)] 38)).alloc (.cells #[.int .i64 (t : Int), .int .i64 (u : Int), .int .i64 (v : Int)] 38) := ⟨_, rfl⟩
  have k1 : Kp W W1 := by rw [hW1]; exact ((Kp.rfl' W).new _).new _
  have s1 : W1.heap.size = W.heap.size + 2 := by rw [hW1]; simp
  have c1 : Cl 38 W1 W.heap.size (hr a b c) := by rw [hW1]; exact (Cl.made W (hr a b c)).new _
  have c2 : Cl 38 W1 (W.heap.size + 1) (hr t u v) := by
    have : Cl 38 ((W.alloc (.cells #[.int .i64 (a : Int), .int .i64 (b : Int), .int .i64 (c : Int)] 38)).alloc (.cells #[.int .i64 (t : Int), .int .i64 (u : Int), .int .i64 (v : Int)] 38)) _ (hr t u v) := Cl.made (ty := 38) (W.alloc (.cells #[.int .i64 (a : Int), .int .i64 (b : Int), .int .i64 (c : Int)] 38)) (hr t u v)
    rw [← hW1] at this
    rwa [World.size_alloc] at this
  have j1 := HT.2.1 _ _ _ hj (k1.mono hB)
  have ST0 := Lib.hid (show J (pre ++ G 0) W1 ∧ Cl 38 W1 W.heap.size (hr a (b + 0) c) ∧ Cl 38 W1 (W.heap.size + 1) (hr t u v) ∧ Kept T W W1 ∧ W.heap.size + 2 ≤ W1.heap.size from
    ⟨by rw [G0.out, List.append_nil]; exact j1, c1, c2, Kept.of k1, Nat.le_of_eq s1.symm⟩)
  have y0 := c1.x0
  have y1 := c1.x1
  have y2 := c1.x2
  have z0 := c2.x0
  have z1 := c2.x1
  have z2 := c2.x2
  rw [hW1] at y0 y1 y2 z0 z1 z2
  rw [hW1] at ST0
  clear HT st sh hj k1 s1 c1 c2 j1 hW1
  obtain ⟨L, hL⟩ : ∃ L : Int, L = (c : Int) - 1 := ⟨_, rfl⟩
  have hwL : IntKind.i64.wrap ((c : Int) - 1) = L := by rw [hL]; exact IntWalk.i64_in _ (by omega)
  have HL := Lib.hid hL
  clear hL
  rcases Int.lt_or_le L (u : Int) with hmn | hmn
  · refine callsIn_of_wp Try.func27 rfl trivial ?_ rfl
    simp only [Try.ntmps27, List.size_toArray, List.length_cons, List.length_nil, Nat.reduceAdd, Nat.reduceSub, Array.replicate_succ, Array.replicate_zero, List.push_toArray, List.append_toArray, List.nil_append, List.cons_append]
    gi_wp2
    gi_loopw [] (fun wr => ∃ n, n ≤ m ∧ J (pre ++ G n) wr ∧ Cl 38 wr W.heap.size (hr a (b + n) c) ∧ Cl 38 wr (W.heap.size + 1) (hr t u v) ∧ Kept T W wr ∧ W.heap.size + 2 ≤ wr.heap.size) (fun wr => m + b - natAt wr ⟨W.heap.size, 1, none⟩)
    case atStart => exact ⟨0, Nat.zero_le _, ST0.out⟩
    case round =>
      clear ST0 y0 y1 y2 z0 z1 z2
      obtain ⟨n, hn, hJ, h1, h2, h3, h4⟩ := hrel
      obtain ⟨y, hy⟩ : ∃ y, y = b + n := ⟨_, rfl⟩
      rw [← hy] at h1
      have HY := Lib.hid hy
      have y0 := h1.x0
      have y1 := h1.x1
      have y2 := h1.x2
      have z0 := h2.x0
      have z1 := h2.x1
      have z2 := h2.x2
      by_cases hlt : n < m
      · have nx := NX.out n
        have ln := LN.out n hlt
        rw [← hy] at nx
        rw [nx] at ln
        have IH := Lib.hid (rise2 l T B N J TK.out t u v a y c ST.out (SH.out y (by omega)) (pre ++ G n) wr hJ (by omega) (by
          rw [List.length_append]; rw [List.length_append] at ln; omega))
        rw [List.append_assoc, ← nx] at IH
        have M0 := Lib.hid (natAt_is (w := wr) (p := ⟨W.heap.size, 1, none⟩) (x := y) y1)
        have F1 := Lib.hid h1
        have F2 := Lib.hid h2
        have F3 := Lib.hid h3
        have F4 := Lib.hid h4
        have hL := HL.out
        have hc : (y : Int) ≤ L := by omega
        clear hL
        have y9 : y ≤ 9 := by omega
        clear hJ h1 h2 h3 h4 nx ln hy
        gi_wp2
        refine ⟨trivial, rfl, ?_⟩
        refine (IH.out).mono ?_
        rintro e W3 ⟨rfl, j3, k3⟩
        have c1 := F1.out.kept k3 (nT.out _ (Nat.le_refl _))
        have c2 := F2.out.kept k3 (nT.out _ (Nat.le_succ _))
        have q0 := c1.x1
        have q1 := c1.free 1
        have E1 := Lib.hid (show Cl 38 (W3.setCell ⟨W.heap.size, 1, none⟩ (.int .i64 ((y : Int) + 1))) W.heap.size (hr a (y + 1) c) from c1.put 1 ((y : Int) + 1))
        have E2 := Lib.hid (show Cl 38 (W3.setCell ⟨W.heap.size, 1, none⟩ (.int .i64 ((y : Int) + 1))) (W.heap.size + 1) (hr t u v) from c2.far (by show W.heap.size + 1 ≠ W.heap.size; omega) _)
        have E3 := Lib.hid (show Below W.heap.size W3 (W3.setCell ⟨W.heap.size, 1, none⟩ (.int .i64 ((y : Int) + 1))) from Below.setCell (Below.refl W.heap.size W3) (p := ⟨W.heap.size, 1, none⟩) (Nat.le_refl _) _)
        have E4 := Lib.hid (show J (pre ++ G (n + 1)) (W3.setCell ⟨W.heap.size, 1, none⟩ (.int .i64 ((y : Int) + 1))) from TK.out.2.1 _ _ _ j3 (E3.out.mono hB))
        have E5 := Lib.hid (show Kept T W (W3.setCell ⟨W.heap.size, 1, none⟩ (.int .i64 ((y : Int) + 1))) from (F3.out.trans k3).next E3.out (Nat.le_refl _))
        have E6 := Lib.hid (show W.heap.size + 2 ≤ (W3.setCell ⟨W.heap.size, 1, none⟩ (.int .i64 ((y : Int) + 1))).heap.size from by have := F4.out; have := k3.size; have := E3.out.size; omega)
        have M1 := Lib.hid (natAt_is (w := W3.setCell ⟨W.heap.size, 1, none⟩ (.int .i64 ((y : Int) + 1))) (p := ⟨W.heap.size, 1, none⟩) (x := y + 1) E1.out.x1)
        have hw : IntKind.i64.wrap ((y : Int) + 1) = (y : Int) + 1 := IntWalk.i64_in _ (by omega)
        clear c1 c2 j3 k3 IH y0 y1 y2 z0 z1 z2
        gi_wp2
        go_roundw
        case rel => exact ⟨n + 1, by omega, E4.out, by rw [← Nat.add_assoc, ← HY.out]; exact E1.out, E2.out, E5.out, E6.out⟩
        case measure =>
          have m0 := M0.out
          have m1 := M1.out
          have hy := HY.out
          rw [m0, m1]; omega
      · obtain rfl : n = m := by omega
        have F2 := Lib.hid hJ
        have F3 := Lib.hid h3
        have hL := HL.out
        have hc : L < (y : Int) := by omega
        clear hL
        clear hJ h1 h2 h3 h4 hy
        gi_wp2
        go_ret
        exact ⟨rfl, F2.out, F3.out⟩
  · refine callsIn_of_wp Try.func27 rfl trivial ?_ rfl
    simp only [Try.ntmps27, List.size_toArray, List.length_cons, List.length_nil, Nat.reduceAdd, Nat.reduceSub, Array.replicate_succ, Array.replicate_zero, List.push_toArray, List.append_toArray, List.nil_append, List.cons_append]
    gi_wp2
    gi_loopw [] (fun wr => ∃ n, n ≤ m ∧ J (pre ++ G n) wr ∧ Cl 38 wr W.heap.size (hr a (b + n) c) ∧ Cl 38 wr (W.heap.size + 1) (hr t u v) ∧ Kept T W wr ∧ W.heap.size + 2 ≤ wr.heap.size) (fun wr => m + b - natAt wr ⟨W.heap.size, 1, none⟩)
    case atStart => exact ⟨0, Nat.zero_le _, ST0.out⟩
    case round =>
      clear ST0 y0 y1 y2 z0 z1 z2
      obtain ⟨n, hn, hJ, h1, h2, h3, h4⟩ := hrel
      obtain ⟨y, hy⟩ : ∃ y, y = b + n := ⟨_, rfl⟩
      rw [← hy] at h1
      have HY := Lib.hid hy
      have y0 := h1.x0
      have y1 := h1.x1
      have y2 := h1.x2
      have z0 := h2.x0
      have z1 := h2.x1
      have z2 := h2.x2
      by_cases hlt : n < m
      · have nx := NX.out n
        have ln := LN.out n hlt
        rw [← hy] at nx
        rw [nx] at ln
        have IH := Lib.hid (rise2 l T B N J TK.out t u v a y c ST.out (SH.out y (by omega)) (pre ++ G n) wr hJ (by omega) (by
          rw [List.length_append]; rw [List.length_append] at ln; omega))
        rw [List.append_assoc, ← nx] at IH
        have M0 := Lib.hid (natAt_is (w := wr) (p := ⟨W.heap.size, 1, none⟩) (x := y) y1)
        have F1 := Lib.hid h1
        have F2 := Lib.hid h2
        have F3 := Lib.hid h3
        have F4 := Lib.hid h4
        have hL := HL.out
        have hc : (y : Int) ≤ (u : Int) := by omega
        clear hL
        have y9 : y ≤ 9 := by omega
        clear hJ h1 h2 h3 h4 nx ln hy
        gi_wp2
        refine ⟨trivial, rfl, ?_⟩
        refine (IH.out).mono ?_
        rintro e W3 ⟨rfl, j3, k3⟩
        have c1 := F1.out.kept k3 (nT.out _ (Nat.le_refl _))
        have c2 := F2.out.kept k3 (nT.out _ (Nat.le_succ _))
        have q0 := c1.x1
        have q1 := c1.free 1
        have E1 := Lib.hid (show Cl 38 (W3.setCell ⟨W.heap.size, 1, none⟩ (.int .i64 ((y : Int) + 1))) W.heap.size (hr a (y + 1) c) from c1.put 1 ((y : Int) + 1))
        have E2 := Lib.hid (show Cl 38 (W3.setCell ⟨W.heap.size, 1, none⟩ (.int .i64 ((y : Int) + 1))) (W.heap.size + 1) (hr t u v) from c2.far (by show W.heap.size + 1 ≠ W.heap.size; omega) _)
        have E3 := Lib.hid (show Below W.heap.size W3 (W3.setCell ⟨W.heap.size, 1, none⟩ (.int .i64 ((y : Int) + 1))) from Below.setCell (Below.refl W.heap.size W3) (p := ⟨W.heap.size, 1, none⟩) (Nat.le_refl _) _)
        have E4 := Lib.hid (show J (pre ++ G (n + 1)) (W3.setCell ⟨W.heap.size, 1, none⟩ (.int .i64 ((y : Int) + 1))) from TK.out.2.1 _ _ _ j3 (E3.out.mono hB))
        have E5 := Lib.hid (show Kept T W (W3.setCell ⟨W.heap.size, 1, none⟩ (.int .i64 ((y : Int) + 1))) from (F3.out.trans k3).next E3.out (Nat.le_refl _))
        have E6 := Lib.hid (show W.heap.size + 2 ≤ (W3.setCell ⟨W.heap.size, 1, none⟩ (.int .i64 ((y : Int) + 1))).heap.size from by have := F4.out; have := k3.size; have := E3.out.size; omega)
        have M1 := Lib.hid (natAt_is (w := W3.setCell ⟨W.heap.size, 1, none⟩ (.int .i64 ((y : Int) + 1))) (p := ⟨W.heap.size, 1, none⟩) (x := y + 1) E1.out.x1)
        have hw : IntKind.i64.wrap ((y : Int) + 1) = (y : Int) + 1 := IntWalk.i64_in _ (by omega)
        clear c1 c2 j3 k3 IH y0 y1 y2 z0 z1 z2
        gi_wp2
        go_roundw
        case rel => exact ⟨n + 1, by omega, E4.out, by rw [← Nat.add_assoc, ← HY.out]; exact E1.out, E2.out, E5.out, E6.out⟩
        case measure =>
          have m0 := M0.out
          have m1 := M1.out
          have hy := HY.out
          rw [m0, m1]; omega
      · obtain rfl : n = m := by omega
        have F2 := Lib.hid hJ
        have F3 := Lib.hid h3
        have hL := HL.out
        have hc : (u : Int) < (y : Int) := by omega
        clear hL
        clear hJ h1 h2 h3 h4 hy
        gi_wp2
        go_ret
        exact ⟨rfl, F2.out, F3.out⟩

set_option maxRecDepth 100000 in
set_option maxHeartbeats 3200000 in
theorem rise0 (l : Nat) (T : Nat → Prop) (B N : Nat) (J : List (List Nat) → World → Prop) (HT : Taker l T B N J) (t u v a b c : Nat) (st : Zx.H3 [t, u, v]) (sh : Zx.H3 [a, b, c]) (pre : List (List Nat)) (W : World) (hj : J pre W) (hB : B ≤ W.heap.size) (hN : pre.length + (Zx.rsn [t, u, v] 3 0 [a, b, c]).length ≤ N) :
    CallsIn Fence.wide 0 Try.prog 27 #[.int .i64 0, hv a b c, hv t u v, .func (.yield l) #[] #[]] W fun e W' => e = .returned (.bool true) ∧ J (pre ++ Zx.rsn [t, u, v] 3 0 [a, b, c]) W' ∧ Kept T W W' := by
  obtain ⟨m, hm⟩ : ∃ m, m = min (t + 1) b - a := ⟨_, rfl⟩
  obtain ⟨G, hG⟩ : ∃ G, G = Zx.rlt (Zx.rsn [t, u, v] 2 1) 0 [a, b, c] := ⟨_, rfl⟩
  have eR : Zx.rsn [t, u, v] 3 0 [a, b, c] = G m := by rw [hG, hm]; rfl
  have NX := Lib.hid (show ∀ n, G (n + 1) = G n ++ Zx.rsn [t, u, v] 2 1 [a + n, b, c] from fun n => by rw [hG]; rfl)
  have G0 := Lib.hid (show G 0 = [] by rw [hG]; rfl)
  have LN := Lib.hid (show ∀ n, n < m → pre.length + (G (n + 1)).length ≤ N from fun n hn => by
    rw [eR] at hN
    have := Zx.rlt_mono (f := Zx.rsn [t, u, v] 2 1) (i := 0) (h := [a, b, c]) (show n + 1 ≤ m by omega)
    rw [← hG] at this
    omega)
  rw [eR]
  clear hG eR hN
  have ht9 : t ≤ 9 := by have := st.le 0; exact this
  have hn9 : b ≤ 9 := by have := sh.le 1; exact this
  have hx9 : a ≤ 9 := by have := sh.le 0; exact this
  have SH := Lib.hid (show ∀ y, y ≤ 9 → Zx.H3 [y, b, c] from fun y hy => by have := sh.set (i := 0) hy; exact this)
  have ST := Lib.hid st
  have TK := Lib.hid HT
  have nT := Lib.hid (show ∀ g, W.heap.size ≤ g → ¬ T g from fun g hg h => by have := HT.1 g h; omega)
  obtain ⟨W1, hW1⟩ : ∃ W1, W1 = (W.alloc (.cells #[.int .i64 (a : Int), .int .i64 (b : Int), .int .i64 (c : Int)] 38)).alloc (.cells #[.int .i64 (t : Int), .int .i64 (u : Int), .int .i64 (v : Int)] 38) := ⟨_, rfl⟩
  have k1 : Kp W W1 := by rw [hW1]; exact ((Kp.rfl' W).new _).new _
  have s1 : W1.heap.size = W.heap.size + 2 := by rw [hW1]; simp
  have c1 : Cl 38 W1 W.heap.size (hr a b c) := by rw [hW1]; exact (Cl.made W (hr a b c)).new _
  have c2 : Cl 38 W1 (W.heap.size + 1) (hr t u v) := by
    have : Cl 38 ((W.alloc (.cells #[.int .i64 (a : Int), .int .i64 (b : Int), .int .i64 (c : Int)] 38)).alloc (.cells #[.int .i64 (t : Int), .int .i64 (u : Int), .int .i64 (v : Int)] 38)) _ (hr t u v) := Cl.made (ty := 38) (W.alloc (.cells #[.int .i64 (a : Int), .int .i64 (b : Int), .int .i64 (c : Int)] 38)) (hr t u v)
    rw [← hW1] at this
    rwa [World.size_alloc] at this
  have j1 := HT.2.1 _ _ _ hj (k1.mono hB)
  have ST0 := Lib.hid (show J (pre ++ G 0) W1 ∧ Cl 38 W1 W.heap.size (hr (a + 0) b c) ∧ Cl 38 W1 (W.heap.size + 1) (hr t u v) ∧ Kept T W W1 ∧ W.heap.size + 2 ≤ W1.heap.size from
    ⟨by rw [G0.out, List.append_nil]; exact j1, c1, c2, Kept.of k1, Nat.le_of_eq s1.symm⟩)
  have y0 := c1.x0
  have y1 := c1.x1
  have y2 := c1.x2
  have z0 := c2.x0
  have z1 := c2.x1
  have z2 := c2.x2
  rw [hW1] at y0 y1 y2 z0 z1 z2
  rw [hW1] at ST0
  clear HT st sh hj k1 s1 c1 c2 j1 hW1
  obtain ⟨L, hL⟩ : ∃ L : Int, L = (b : Int) - 1 := ⟨_, rfl⟩
  have hwL : IntKind.i64.wrap ((b : Int) - 1) = L := by rw [hL]; exact IntWalk.i64_in _ (by omega)
  have HL := Lib.hid hL
  clear hL
  rcases Int.lt_or_le L (t : Int) with hmn | hmn
  · refine callsIn_of_wp Try.func27 rfl trivial ?_ rfl
    simp only [Try.ntmps27, List.size_toArray, List.length_cons, List.length_nil, Nat.reduceAdd, Nat.reduceSub, Array.replicate_succ, Array.replicate_zero, List.push_toArray, List.append_toArray, List.nil_append, List.cons_append]
    gi_wp2
    gi_loopw [] (fun wr => ∃ n, n ≤ m ∧ J (pre ++ G n) wr ∧ Cl 38 wr W.heap.size (hr (a + n) b c) ∧ Cl 38 wr (W.heap.size + 1) (hr t u v) ∧ Kept T W wr ∧ W.heap.size + 2 ≤ wr.heap.size) (fun wr => m + a - natAt wr ⟨W.heap.size, 0, none⟩)
    case atStart => exact ⟨0, Nat.zero_le _, ST0.out⟩
    case round =>
      clear ST0 y0 y1 y2 z0 z1 z2
      obtain ⟨n, hn, hJ, h1, h2, h3, h4⟩ := hrel
      obtain ⟨y, hy⟩ : ∃ y, y = a + n := ⟨_, rfl⟩
      rw [← hy] at h1
      have HY := Lib.hid hy
      have y0 := h1.x0
      have y1 := h1.x1
      have y2 := h1.x2
      have z0 := h2.x0
      have z1 := h2.x1
      have z2 := h2.x2
      by_cases hlt : n < m
      · have nx := NX.out n
        have ln := LN.out n hlt
        rw [← hy] at nx
        rw [nx] at ln
        have IH := Lib.hid (rise1 l T B N J TK.out t u v y b c ST.out (SH.out y (by omega)) (pre ++ G n) wr hJ (by omega) (by
          rw [List.length_append]; rw [List.length_append] at ln; omega))
        rw [List.append_assoc, ← nx] at IH
        have M0 := Lib.hid (natAt_is (w := wr) (p := ⟨W.heap.size, 0, none⟩) (x := y) y0)
        have F1 := Lib.hid h1
        have F2 := Lib.hid h2
        have F3 := Lib.hid h3
        have F4 := Lib.hid h4
        have hL := HL.out
        have hc : (y : Int) ≤ L := by omega
        clear hL
        have y9 : y ≤ 9 := by omega
        clear hJ h1 h2 h3 h4 nx ln hy
        gi_wp2
        refine ⟨trivial, rfl, ?_⟩
        refine (IH.out).mono ?_
        rintro e W3 ⟨rfl, j3, k3⟩
        have c1 := F1.out.kept k3 (nT.out _ (Nat.le_refl _))
        have c2 := F2.out.kept k3 (nT.out _ (Nat.le_succ _))
        have q0 := c1.x0
        have q1 := c1.free 0
        have E1 := Lib.hid (show Cl 38 (W3.setCell ⟨W.heap.size, 0, none⟩ (.int .i64 ((y : Int) + 1))) W.heap.size (hr (y + 1) b c) from c1.put 0 ((y : Int) + 1))
        have E2 := Lib.hid (show Cl 38 (W3.setCell ⟨W.heap.size, 0, none⟩ (.int .i64 ((y : Int) + 1))) (W.heap.size + 1) (hr t u v) from c2.far (by show W.heap.size + 1 ≠ W.heap.size; omega) _)
        have E3 := Lib.hid (show Below W.heap.size W3 (W3.setCell ⟨W.heap.size, 0, none⟩ (.int .i64 ((y : Int) + 1))) from Below.setCell (Below.refl W.heap.size W3) (p := ⟨W.heap.size, 0, none⟩) (Nat.le_refl _) _)
        have E4 := Lib.hid (show J (pre ++ G (n + 1)) (W3.setCell ⟨W.heap.size, 0, none⟩ (.int .i64 ((y : Int) + 1))) from TK.out.2.1 _ _ _ j3 (E3.out.mono hB))
        have E5 := Lib.hid (show Kept T W (W3.setCell ⟨W.heap.size, 0, none⟩ (.int .i64 ((y : Int) + 1))) from (F3.out.trans k3).next E3.out (Nat.le_refl _))
        have E6 := Lib.hid (show W.heap.size + 2 ≤ (W3.setCell ⟨W.heap.size, 0, none⟩ (.int .i64 ((y : Int) + 1))).heap.size from by have := F4.out; have := k3.size; have := E3.out.size; omega)
        have M1 := Lib.hid (natAt_is (w := W3.setCell ⟨W.heap.size, 0, none⟩ (.int .i64 ((y : Int) + 1))) (p := ⟨W.heap.size, 0, none⟩) (x := y + 1) E1.out.x0)
        have hw : IntKind.i64.wrap ((y : Int) + 1) = (y : Int) + 1 := IntWalk.i64_in _ (by omega)
        clear c1 c2 j3 k3 IH y0 y1 y2 z0 z1 z2
        gi_wp2
        go_roundw
        case rel => exact ⟨n + 1, by omega, E4.out, by rw [← Nat.add_assoc, ← HY.out]; exact E1.out, E2.out, E5.out, E6.out⟩
        case measure =>
          have m0 := M0.out
          have m1 := M1.out
          have hy := HY.out
          rw [m0, m1]; omega
      · obtain rfl : n = m := by omega
        have F2 := Lib.hid hJ
        have F3 := Lib.hid h3
        have hL := HL.out
        have hc : L < (y : Int) := by omega
        clear hL
        clear hJ h1 h2 h3 h4 hy
        gi_wp2
        go_ret
        exact ⟨rfl, F2.out, F3.out⟩
  · refine callsIn_of_wp Try.func27 rfl trivial ?_ rfl
    simp only [Try.ntmps27, List.size_toArray, List.length_cons, List.length_nil, Nat.reduceAdd, Nat.reduceSub, Array.replicate_succ, Array.replicate_zero, List.push_toArray, List.append_toArray, List.nil_append, List.cons_append]
    gi_wp2
    gi_loopw [] (fun wr => ∃ n, n ≤ m ∧ J (pre ++ G n) wr ∧ Cl 38 wr W.heap.size (hr (a + n) b c) ∧ Cl 38 wr (W.heap.size + 1) (hr t u v) ∧ Kept T W wr ∧ W.heap.size + 2 ≤ wr.heap.size) (fun wr => m + a - natAt wr ⟨W.heap.size, 0, none⟩)
    case atStart => exact ⟨0, Nat.zero_le _, ST0.out⟩
    case round =>
      clear ST0 y0 y1 y2 z0 z1 z2
      obtain ⟨n, hn, hJ, h1, h2, h3, h4⟩ := hrel
      obtain ⟨y, hy⟩ : ∃ y, y = a + n := ⟨_, rfl⟩
      rw [← hy] at h1
      have HY := Lib.hid hy
      have y0 := h1.x0
      have y1 := h1.x1
      have y2 := h1.x2
      have z0 := h2.x0
      have z1 := h2.x1
      have z2 := h2.x2
      by_cases hlt : n < m
      · have nx := NX.out n
        have ln := LN.out n hlt
        rw [← hy] at nx
        rw [nx] at ln
        have IH := Lib.hid (rise1 l T B N J TK.out t u v y b c ST.out (SH.out y (by omega)) (pre ++ G n) wr hJ (by omega) (by
          rw [List.length_append]; rw [List.length_append] at ln; omega))
        rw [List.append_assoc, ← nx] at IH
        have M0 := Lib.hid (natAt_is (w := wr) (p := ⟨W.heap.size, 0, none⟩) (x := y) y0)
        have F1 := Lib.hid h1
        have F2 := Lib.hid h2
        have F3 := Lib.hid h3
        have F4 := Lib.hid h4
        have hL := HL.out
        have hc : (y : Int) ≤ (t : Int) := by omega
        clear hL
        have y9 : y ≤ 9 := by omega
        clear hJ h1 h2 h3 h4 nx ln hy
        gi_wp2
        refine ⟨trivial, rfl, ?_⟩
        refine (IH.out).mono ?_
        rintro e W3 ⟨rfl, j3, k3⟩
        have c1 := F1.out.kept k3 (nT.out _ (Nat.le_refl _))
        have c2 := F2.out.kept k3 (nT.out _ (Nat.le_succ _))
        have q0 := c1.x0
        have q1 := c1.free 0
        have E1 := Lib.hid (show Cl 38 (W3.setCell ⟨W.heap.size, 0, none⟩ (.int .i64 ((y : Int) + 1))) W.heap.size (hr (y + 1) b c) from c1.put 0 ((y : Int) + 1))
        have E2 := Lib.hid (show Cl 38 (W3.setCell ⟨W.heap.size, 0, none⟩ (.int .i64 ((y : Int) + 1))) (W.heap.size + 1) (hr t u v) from c2.far (by show W.heap.size + 1 ≠ W.heap.size; omega) _)
        have E3 := Lib.hid (show Below W.heap.size W3 (W3.setCell ⟨W.heap.size, 0, none⟩ (.int .i64 ((y : Int) + 1))) from Below.setCell (Below.refl W.heap.size W3) (p := ⟨W.heap.size, 0, none⟩) (Nat.le_refl _) _)
        have E4 := Lib.hid (show J (pre ++ G (n + 1)) (W3.setCell ⟨W.heap.size, 0, none⟩ (.int .i64 ((y : Int) + 1))) from TK.out.2.1 _ _ _ j3 (E3.out.mono hB))
        have E5 := Lib.hid (show Kept T W (W3.setCell ⟨W.heap.size, 0, none⟩ (.int .i64 ((y : Int) + 1))) from (F3.out.trans k3).next E3.out (Nat.le_refl _))
        have E6 := Lib.hid (show W.heap.size + 2 ≤ (W3.setCell ⟨W.heap.size, 0, none⟩ (.int .i64 ((y : Int) + 1))).heap.size from by have := F4.out; have := k3.size; have := E3.out.size; omega)
        have M1 := Lib.hid (natAt_is (w := W3.setCell ⟨W.heap.size, 0, none⟩ (.int .i64 ((y : Int) + 1))) (p := ⟨W.heap.size, 0, none⟩) (x := y + 1) E1.out.x0)
        have hw : IntKind.i64.wrap ((y : Int) + 1) = (y : Int) + 1 := IntWalk.i64_in _ (by omega)
        clear c1 c2 j3 k3 IH y0 y1 y2 z0 z1 z2
        gi_wp2
        go_roundw
        case rel => exact ⟨n + 1, by omega, E4.out, by rw [← Nat.add_assoc, ← HY.out]; exact E1.out, E2.out, E5.out, E6.out⟩
        case measure =>
          have m0 := M0.out
          have m1 := M1.out
          have hy := HY.out
          rw [m0, m1]; omega
      · obtain rfl : n = m := by omega
        have F2 := Lib.hid hJ
        have F3 := Lib.hid h3
        have hL := HL.out
        have hc : (t : Int) < (y : Int) := by omega
        clear hL
        clear hJ h1 h2 h3 h4 hy
        gi_wp2
        go_ret
        exact ⟨rfl, F2.out, F3.out⟩

end Go.Proofs.Ytolkdbijenbchaa
