/- The law DefiniteDouble. -/
import Derived.Test.YtapcnlbcookldaaDfFact
import Derived.Deep.RegionHeld3
namespace Go.Proofs.Ytapcnlbcookldaa
open Go.ChangeShapes Go.WideShapes Go.ChangeAt Go.RowKit Go.Shelf
set_option linter.unusedVariables false

/-- What At answers for a form, whatever the row. -/
def AtGot (n : Nat) (x : Nat → Nat → Int) (l : List Int) (q : Int) (ev : Value) : Prop :=
  (ev = .nilIface ∧ ∃ v, l = Mx.row n v ∧ (∀ i, i < n → -100 ≤ v i ∧ v i ≤ 100) ∧ q = Zx.qf n x v ∧ q.natAbs ≤ 2880000) ∨ (q = 0 ∧ ∃ z : Nat, ev = .iface 45 (.int .i64 (z : Int)))
theorem AtGot.bound {n : Nat} {x : Nat → Nat → Int} {l : List Int} {q : Int} {ev : Value} (h : AtGot n x l q ev) : q.natAbs ≤ 2880000 := by
  rcases h with ⟨_, v, _, _, _, h⟩ | ⟨rfl, _⟩
  · exact h
  · decide
theorem AtGot.ev {n : Nat} {x : Nat → Nat → Int} {l : List Int} {q : Int} {ev : Value} (h : AtGot n x l q ev) : ev = .nilIface ∨ ∃ z : Nat, ev = .iface 45 (.int .i64 (z : Int)) := by
  rcases h with ⟨h, _⟩ | ⟨_, h⟩
  · exact .inl h
  · exact .inr h
theorem qf_bound {n : Nat} {x : Nat → Nat → Int} {m : List (List Int)} {v : Nat → Int} (s : Sf n x m) (hv : ∀ i, i < n → -100 ≤ v i ∧ v i ≤ 100) : (Zx.qf n x v).natAbs ≤ 2880000 := by
  rw [← fsum_all s.sym]
  have h1 := fsum_bound s.shz.n0 s.shz.ab hv (Zx.tris n n)
  have h2 := Zx.len_tris n n
  have h3 : n * n ≤ 4 * 4 := Nat.mul_le_mul s.n4 s.n4
  omega
theorem DAt_gen (A X : Option Addr) (m : List (List Int)) (x : Nat → Nat → Int) (l : List Int) (n d p c : Nat) (w : World) (ha : LiesM w A m) (s : Sf n x m) (hx : Lies w X l) (hp : l.length = p) :
    Calls Try.prog 9 #[.slice A n d, .slice X p c] w fun e w' => ∃ q ev, e = .returned (.tuple #[.int .i64 q, ev]) ∧ Kp w w' ∧ AtGot n x l q ev := by
  rcases xcode_or l n with ⟨v, rfl, hv⟩ | h
  · rw [Mx.len_row] at hp
    subst hp
    refine (DAt_ok A X m x v n d c w ha s hx hv).mono ?_
    rintro e w' ⟨rfl, k⟩
    exact ⟨_, _, rfl, k, .inl ⟨rfl, v, rfl, hv, rfl, qf_bound s hv⟩⟩
  · refine (DAt_off A X m x l n d p c w ha s hx hp h).mono ?_
    rintro e w' ⟨rfl, k⟩
    exact ⟨_, _, rfl, k, .inr ⟨rfl, _, rfl⟩⟩

/-- Three rows of the call's own, apart from each other. -/
structure Three (w0 : World) (u v t : Value) (l m q : List Int) (w : World) : Prop where
  uv : Two w0 u v l m w
  ut : Two w0 u t l q w
  vt : Two w0 v t m q w
section
variable {w0 w w' : World} {u u' v t : Value} {l l' m q : List Int}
theorem Three.rot (h : Three w0 u v t l m q w) : Three w0 v t u m q l w := ⟨h.vt, h.uv.symm, h.ut.symm⟩
theorem Three.drewN (h : Three w0 u v t l m q w) (n : Nat) : Three w0 u v t l m q (w.drewN n) := ⟨h.uv.drewN n, h.ut.drewN n, h.vt.drewN n⟩
theorem Three.new (h : Three w0 u v t l m q w) (o : Obj) : Three w0 u v t l m q (w.alloc o) := ⟨h.uv.new o, h.ut.new o, h.vt.new o⟩
theorem two_apart (h : Two w0 u v l m w) : v.ownBlock = none ∨ v.ownBlock ≠ u.ownBlock := by
  cases hv : v.ownBlock with
  | none => exact .inl rfl
  | some g => exact .inr fun e => h.apart g e.symm hv
theorem Three.grown (h : Three w0 u v t l m q w) (h1 : Own w' w0.heap.size u' l') (hg : w.grownBy w' u.ownBlock) (ha : At w u u') : Three w0 u' v t l' m q w' :=
  ⟨h.uv.grown h1 hg ha, h.ut.grown h1 hg ha, Own.grown h.vt.one hg (two_apart h.uv), Own.grown h.vt.two hg (two_apart h.ut), h.vt.apart, own_below h.uv.one h.uv.kp h.uv.kp.size hg⟩
end
theorem three_none (w0 : World) : Three w0 (.slice none 0 0) (.slice none 0 0) (.slice none 0 0) [] [] [] w0 :=
  have h : Two w0 (.slice none 0 0) (.slice none 0 0) [] [] w0 := ⟨Own.none _ _, Own.none _ _, fun g e => (by cases e), Kp.rfl' _⟩
  ⟨h, h, h⟩

/-- Behind the three rows: what is left of the law. -/
def dblEnd (a b c f g : Int) (e1 e2 e3 : Value) : Prop :=
  (e3 = .nilIface → g = 4 * a) ∧ (e1 = .nilIface → e2 = .nilIface → c + f = 2 * a + 2 * b)
theorem dbl_end {n : Nat} {x : Nat → Nat → Int} {v u : Nat → Int} {a b c f g : Int} {e1 e2 e3 : Value} (ea : a = Zx.qf n x v) (eb : b = Zx.qf n x u)
    (h1 : AtGot n x (Mx.row n fun i => v i + u i) c e1) (h2 : AtGot n x (Mx.row n fun i => v i - u i) f e2) (h3 : AtGot n x (Mx.row n fun i => 2 * v i) g e3) : dblEnd a b c f g e1 e2 e3 := by
  refine ⟨fun h => ?_, fun h h' => ?_⟩
  · rcases h3 with ⟨_, y, hy, _, e, _⟩ | ⟨_, z, e⟩
    · rw [e, ea, ← Zx.qf_congr (fun _ _ _ _ => rfl) (Mx.row_inj hy).2, Zx.qf_times]; rfl
    · rw [e] at h; cases h
  · rcases h1 with ⟨_, y, hy, _, e, _⟩ | ⟨_, z, e⟩
    · rcases h2 with ⟨_, y', hy', _, e', _⟩ | ⟨_, z, e'⟩
      · rw [e, e', ea, eb, ← Zx.qf_congr (fun _ _ _ _ => rfl) (Mx.row_inj hy).2, ← Zx.qf_congr (fun _ _ _ _ => rfl) (Mx.row_inj hy').2, Zx.qf_both]
      · rw [e'] at h'; cases h'
    · rw [e] at h; cases h

set_option maxRecDepth 100000 in
set_option maxHeartbeats 6400000 in
theorem dbl_good (A X Y : Option Addr) (m : List (List Int)) (x : Nat → Nat → Int) (l1 l2 : List Int) (n c p1 p2 d1 d2 : Nat) (w : World) (ha : LiesM w A m) (s : Sf n x m) (hx : Lies w X l1) (hy : Lies w Y l2) (hp1 : l1.length = p1) (hp2 : l2.length = p2) :
    Calls Try.prog 6 #[.slice A n c, .slice X p1 d1, .slice Y p2 d2] w fun e w' => e = .returned (.bool true) ∧ Kp w w' := by
  have FA := Lib.hid (definiteFact_any w)
  have HA := Lib.hid ha
  have HX := Lib.hid hx
  have HY := Lib.hid hy
  have A1 := Lib.hid (fun w1 (k : Kp w w1) => DAt_gen A X m x l1 n c p1 d1 w1 (ha.keep k) s (hx.keep k) hp1)
  have A2 := Lib.hid (fun w1 (k : Kp w w1) => DAt_gen A Y m x l2 n c p2 d2 w1 (ha.keep k) s (hy.keep k) hp2)
  have A3 := Lib.hid (fun w1 (k : Kp w w1) X3 c3 v (h : Lies w1 X3 (Mx.row n v)) => DAt_gen A X3 m x (Mx.row n v) n c n c3 w1 (ha.keep k) s h (Mx.len_row _ _))
  have n4 := s.n4
  have HP1 := Lib.hid hp1
  have HP2 := Lib.hid hp2
  clear ha hx hy s hp1 hp2
  go_enter Try.func6, Try.ntmps6
  go_wp2_with fail
  refine (FA.out).mono ?_; rintro e w1 ⟨rfl, k1⟩
  have K1 := Lib.hid k1; clear k1
  go_wp2_with fail
  refine (A1.out w1 K1.out).mono ?_; rintro e w2 ⟨a, e1, rfl, k2, h1⟩
  have K2 := Lib.hid (K1.out.trans k2); clear k2
  have H1 := Lib.hid h1; clear h1
  go_wp2_with fail
  refine (A2.out w2 K2.out).mono ?_; rintro e w3 ⟨b, e2, rfl, k3, h2⟩
  have K3 := Lib.hid (K2.out.trans k3); clear k3
  rcases H1.out with ⟨rfl, v, rfl, hv, ea, ba⟩ | ⟨rfl, z, rfl⟩
  · rcases h2 with ⟨rfl, u, rfl, hu, eb, bb⟩ | ⟨rfl, z, rfl⟩
    · have hp : p1 = n := by rw [← HP1.out, Mx.len_row]
      have hp' : p2 = n := by rw [← HP2.out, Mx.len_row]
      subst hp
      subst hp'
      have VB := Lib.hid hv
      have UB := Lib.hid hu
      have EA := Lib.hid ea
      have EB := Lib.hid eb
      have BA := Lib.hid ba
      have BB := Lib.hid bb
      clear H1 hv hu ea eb ba bb HP1 HP2
      go_wp2_with fail
      go_loopw [12, 13, 14, 15] (fun V1 V2 V3 i wr => ∃ k : Nat, k ≤ p2 ∧ i = .int .i64 (k : Int) ∧ Three w3 V1 V2 V3 (Mx.row k fun i => v i + u i) (Mx.row k fun i => v i - u i) (Mx.row k fun i => 2 * v i) wr) (fun _ _ _ i _ => p2 - (intOf i).toNat)
      case atStart => exact ⟨0, Nat.zero_le _, rfl, three_none w3⟩
      case round =>
        obtain ⟨k, hk, rfl, ht⟩ := hrel
        obtain ⟨wo, hwo⟩ : ∃ y, y = wr := ⟨_, rfl⟩
        subst hwo
        have HT := Lib.hid ht
        by_cases hlt : k < p2
        · have hk3 := K3.out.trans ht.uv.kp
          obtain ⟨xd, rfl, bx, xc⟩ := (HX.out.keep hk3).el hlt
          obtain ⟨yd, rfl, by', yc⟩ := (HY.out.keep hk3).el hlt
          obtain ⟨_, ex, bx0, _⟩ := (HX.out.keep K3.out).el hlt
          obtain rfl := Option.some.inj ex
          obtain ⟨_, ey, by0, _⟩ := (HY.out.keep K3.out).el hlt
          obtain rfl := Option.some.inj ey
          have b1 := VB.out k hlt
          have b2 := UB.out k hlt
          have NX := Lib.hid (show ∀ W, Kp w3 W → W.cell? (xd.add k) = some (.int .i64 (v k)) from fun W h => by
            obtain ⟨_, ex, _, h2⟩ := (HX.out.keep (K3.out.trans h)).el hlt
            obtain rfl := Option.some.inj ex
            exact h2)
          have NY := Lib.hid (show ∀ W, Kp w3 W → W.cell? (yd.add k) = some (.int .i64 (u k)) from fun W h => by
            obtain ⟨_, ex, _, h2⟩ := (HY.out.keep (K3.out.trans h)).el hlt
            obtain rfl := Option.some.inj ex
            exact h2)
          have R1 := Lib.hid (show (Mx.row (k + 1) fun i => v i + u i) = (Mx.row k fun i => v i + u i) ++ [v k + u k] from Mx.row_snoc _ _)
          have R2 := Lib.hid (show (Mx.row (k + 1) fun i => v i - u i) = (Mx.row k fun i => v i - u i) ++ [v k - u k] from Mx.row_snoc _ _)
          have R3 := Lib.hid (show (Mx.row (k + 1) fun i => 2 * v i) = (Mx.row k fun i => 2 * v i) ++ [2 * v k] from Mx.row_snoc _ _)
          have L1 := Lib.hid (show (Mx.row k fun i => v i + u i).length + 1 ≤ 17000000000000 by rw [Mx.len_row]; omega)
          have L2 := Lib.hid (show (Mx.row k fun i => v i - u i).length + 1 ≤ 17000000000000 by rw [Mx.len_row]; omega)
          have L3 := Lib.hid (show (Mx.row k fun i => 2 * v i).length + 1 ≤ 17000000000000 by rw [Mx.len_row]; omega)
          generalize (Mx.row k fun i => v i + u i) = r1 at *
          generalize (Mx.row k fun i => v i - u i) = r2 at *
          generalize (Mx.row k fun i => 2 * v i) = r3 at *
          generalize hvk : v k = a1 at *
          generalize huk : u k = a2 at *
          have hw1 : IntKind.i64.wrap (a1 + a2) = a1 + a2 := IntWalk.i64_in _ (by omega)
          have hw2 : IntKind.i64.wrap (a1 - a2) = a1 - a2 := IntWalk.i64_in _ (by omega)
          have hw3 : IntKind.i64.wrap (2 * a1) = 2 * a1 := IntWalk.i64_in _ (by omega)
          have BX := Lib.hid bx0
          have BY := Lib.hid by0
          have NB := Lib.hid (own_far HT.out.uv.one (p := xd.add k) (by rw [block_add]; exact bx0))
          have NC := Lib.hid (own_far HT.out.uv.one (p := yd.add k) (by rw [block_add]; exact by0))
          have hsz := HT.out.uv.kp.size
          clear ht hk3 bx by' bx0 by0 b1 b2 hvk huk
          go_wp2_with fail
          go_region_held3 (fun w' => w'.cell? (xd.add k) = some (.int .i64 a1) ∧ w'.cell? (yd.add k) = some (.int .i64 a2))
            (first
            | go_keep
            | (refine ⟨World.grownBy.cell g6 ?_ NB.out, World.grownBy.cell g6 ?_ NC.out⟩ <;> go_keep))
            ((refine step_push (by rfl) _ _ (by rfl) w3.heap.size _ r1 (a1 + a2) _ 1 (by rfl) (by rfl) ?_ ?_ L1.out ?_ ?_; (· exact ((HT.out.uv.one.drewN 1).new _)); (· simp; done); (· simp; omega); intro v' w' h1 g6 h6))
          have T1 := Lib.hid (((HT.out.drewN 1).new _).grown h1 g6 h6)
          rw [← R1.out] at T1
          have x1 := NX.out _ T1.out.uv.kp
          have y1 := NY.out _ T1.out.uv.kp
          have NB := Lib.hid (own_far T1.out.vt.one (p := xd.add k) (by rw [block_add]; exact BX.out))
          have NC := Lib.hid (own_far T1.out.vt.one (p := yd.add k) (by rw [block_add]; exact BY.out))
          have hsz := T1.out.uv.kp.size
          clear h1 g6 h6 HT
          go_wp2_with fail
          go_region_held3 (fun w' => w'.cell? (xd.add k) = some (.int .i64 a1) ∧ w'.cell? (yd.add k) = some (.int .i64 a2))
            (first
            | go_keep
            | (refine ⟨World.grownBy.cell g6 ?_ NB.out, World.grownBy.cell g6 ?_ NC.out⟩ <;> go_keep))
            ((refine step_push (by rfl) _ _ (by rfl) w3.heap.size _ r2 (a1 - a2) _ 1 (by rfl) (by rfl) ?_ ?_ L2.out ?_ ?_; (· exact ((T1.out.vt.one.drewN 1).new _)); (· simp; done); (· simp; omega); intro v' w' h1 g6 h6))
          have T2 := Lib.hid (((T1.out.rot.drewN 1).new _).grown h1 g6 h6)
          rw [← R2.out] at T2
          obtain ⟨wz, hwz⟩ : ∃ y, y = w' := ⟨_, rfl⟩
          subst hwz
          have x2 := NX.out _ T2.out.uv.kp
          have hsz2 := T2.out.uv.kp.size
          clear h1 g6 h6 T1 x1 y1 NB NC
          go_wp2_with (at_builtin; refine wpList_push rfl _ _ rfl w3.heap.size _ r3 (2 * a1) wz.heap.size 1 rfl rfl (T2.out.vt.one.new _) (cell_made _ _ _ _ 0 rfl) L3.out (Nat.le_trans hsz2 ((Kp.rfl' _).new _).size) ?_; intro v'' w7 h1 g6 h6)
          have T3 := Lib.hid (((T2.out.rot).new _).grown h1 g6 h6)
          rw [← R3.out] at T3
          have T4 := Lib.hid T3.out.rot
          clear h1 g6 h6 T2 T3 x2
          go_wp2_with fail
          go_roundw
          case rel => exact ⟨k + 1, by omega, by go_num, T4.out⟩
          case measure => simp [intOf]; omega
        · obtain rfl : k = p2 := by omega
          obtain ⟨S1, c1, rfl, l1⟩ := HT.out.uv.one.lies
          obtain ⟨S2, c2, rfl, l2⟩ := HT.out.uv.two.lies
          obtain ⟨S3, c3, rfl, l3⟩ := HT.out.ut.two.lies
          rw [Mx.len_row, Mx.len_row, Mx.len_row]
          have K4 := Lib.hid (K3.out.trans ht.uv.kp)
          have C1 := Lib.hid (A3.out wo K4.out S1 c1 _ l1)
          have LB := Lib.hid l2
          have LC := Lib.hid l3
          clear ht HT l1 l2 l3 VB UB
          go_wp2_with fail
          refine (C1.out).mono ?_; rintro e w4 ⟨q1, e1, rfl, k4, g1⟩
          have K5 := Lib.hid (K4.out.trans k4)
          have C2 := Lib.hid (A3.out w4 K5.out S2 c2 _ (LB.out.keep k4))
          have LC4 := Lib.hid (LC.out.keep k4)
          have G1 := Lib.hid g1
          clear k4 C1 g1
          go_wp2_with fail
          refine (C2.out).mono ?_; rintro e w5 ⟨q2, e2, rfl, k5, g2⟩
          have K6 := Lib.hid (K5.out.trans k5)
          have C3 := Lib.hid (A3.out w5 K6.out S3 c3 _ (LC4.out.keep k5))
          have G2 := Lib.hid g2
          clear k5 C2 g2
          go_wp2_with fail
          refine (C3.out).mono ?_; rintro e w6 ⟨q3, e3, rfl, k6, g3⟩
          have K7 := Lib.hid (K6.out.trans k6)
          obtain ⟨d1, d2⟩ := dbl_end EA.out EB.out G1.out G2.out g3
          have ba := BA.out
          have bb := BB.out
          have bq1 := G1.out.bound
          have bq2 := G2.out.bound
          have bq3 := g3.bound
          have hw1 : IntKind.i64.wrap (4 * a) = 4 * a := IntWalk.i64_in _ (by omega)
          have hw2 : IntKind.i64.wrap (q1 + q2) = q1 + q2 := IntWalk.i64_in _ (by omega)
          have hw3 : IntKind.i64.wrap (2 * a) = 2 * a := IntWalk.i64_in _ (by omega)
          have hw4 : IntKind.i64.wrap (2 * b) = 2 * b := IntWalk.i64_in _ (by omega)
          have hw5 : IntKind.i64.wrap (2 * a + 2 * b) = 2 * a + 2 * b := IntWalk.i64_in _ (by omega)
          have v1 := G1.out.ev
          have v2 := G2.out.ev
          have v3 := g3.ev
          clear ba bb bq1 bq2 bq3 g3 k6 C3 G1 G2 EA EB BA BB
          rcases v3 with rfl | ⟨z3, rfl⟩
          · have hg : (q3 != 4 * a) = false := by rw [d1 rfl]; simp
            clear d1
            rcases v1 with rfl | ⟨z1, rfl⟩
            · rcases v2 with rfl | ⟨z2, rfl⟩
              · have hc : (q1 + q2 == 2 * a + 2 * b) = true := by rw [d2 rfl rfl]; simp
                clear d2
                go_wp2_with fail
                go_ret
                exact ⟨rfl, K7.out⟩
              · clear d2
                go_wp2_with fail
                go_ret
                exact ⟨rfl, K7.out⟩
            · clear d2
              go_wp2_with fail
              go_ret
              exact ⟨rfl, K7.out⟩
          · clear d1
            rcases v1 with rfl | ⟨z1, rfl⟩
            · rcases v2 with rfl | ⟨z2, rfl⟩
              · have hc : (q1 + q2 == 2 * a + 2 * b) = true := by rw [d2 rfl rfl]; simp
                clear d2
                go_wp2_with fail
                go_ret
                exact ⟨rfl, K7.out⟩
              · clear d2
                go_wp2_with fail
                go_ret
                exact ⟨rfl, K7.out⟩
            · clear d2
              go_wp2_with fail
              go_ret
              exact ⟨rfl, K7.out⟩
    · clear H1 ea hv
      go_wp2_with fail
      go_ret
      exact ⟨ret_bool (by simp), K3.out⟩
  · have v2 := AtGot.ev h2
    clear H1 h2
    rcases v2 with rfl | ⟨z2, rfl⟩
    · go_wp2_with fail
      go_ret
      exact ⟨ret_bool (by simp), K3.out⟩
    · go_wp2_with fail
      go_ret
      exact ⟨ret_bool (by simp), K3.out⟩

set_option maxRecDepth 100000 in
set_option maxHeartbeats 1600000 in
theorem walk_DefiniteDouble (A : Option Addr) (m : List (List Int)) (c : Nat) (X : Option Addr) (l1 : List Int) (d1 : Nat) (Y : Option Addr) (l2 : List Int) (d2 : Nat) (w : World) (ha : LiesM w A m) (hx : Lies w X l1) (hy : Lies w Y l2) :
    Calls Try.prog 6 #[.slice A m.length c, .slice X l1.length d1, .slice Y l2.length d2] w fun e w' => e = .returned (.bool true) ∧ Kp w w' := by
  obtain ⟨n, hn⟩ : ∃ n, n = m.length := ⟨_, rfl⟩
  rw [← hn]
  rcases sf_or m hn.symm with ⟨x, s⟩ | ⟨z, bad⟩
  · exact dbl_good A X Y m x l1 l2 n c _ _ d1 d2 w ha s hx hy rfl rfl
  · have FA := Lib.hid (definiteFact_any w)
    have HA := Lib.hid ha
    generalize hp1 : l1.length = p1
    generalize hp2 : l2.length = p2
    have A1 := Lib.hid (fun w1 X l p d (k : Kp w w1) => DAt_bad A X m l n c p d z w1 (ha.keep k) hn.symm bad)
    clear hn bad ha hx hy hp1 hp2
    go_enter Try.func6, Try.ntmps6
    go_wp2_with fail
    refine (FA.out).mono ?_; rintro e w1 ⟨rfl, k1⟩
    have K1 := Lib.hid k1; clear k1
    go_wp2_with fail
    refine (A1.out w1 X l1 _ _ K1.out).mono ?_; rintro e w2 ⟨rfl, k2⟩
    have K2 := Lib.hid (K1.out.trans k2); clear k2
    go_wp2_with fail
    refine (A1.out w2 Y l2 _ _ K2.out).mono ?_; rintro e w3 ⟨rfl, k3⟩
    have K3 := Lib.hid (K2.out.trans k3); clear k3
    go_wp2_with fail
    go_ret
    exact ⟨ret_bool (by simp), K3.out⟩
end Go.Proofs.Ytapcnlbcookldaa
