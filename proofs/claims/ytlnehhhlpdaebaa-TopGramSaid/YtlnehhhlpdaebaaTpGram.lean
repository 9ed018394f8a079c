/- The law TopGram. -/
import Derived.Test.YtlnehhhlpdaebaaLtC2
import Derived.Test.YtlnehhhlpdaebaaL11
import Derived.Test.YtlnehhhlpdaebaaDfFact
import Derived.Test.YtlnehhhlpdaebaaLawIn
import Derived.Test.YtlnehhhlpdaebaaMatSm
namespace Go.Proofs.Ytlnehhhlpdaebaa
open Go.ChangeShapes Go.WideShapes Go.ChangeAt Go.RowKit
open Lag (V nn ip ar cb)
set_option linter.unusedVariables false

theorem l11_sf : Sf 1 (fun _ _ => 1) (Mx.tab 1 1 fun _ _ => 1) := ⟨⟨rfl, by decide, by decide, fun i j _ _ => ⟨by decide, by decide⟩⟩, by decide, fun _ _ _ _ => rfl⟩
theorem l11_pos : posB 1 (fun _ _ => 1) = true := by decide +kernel

/-- The matrix of the products of two places. -/
theorem gr_dt (a b c : Int) : Zx.dt 2 (n22 a b b c) = a * c - b * b := Zx.dt_2 _
theorem gr_one (a b c : Int) : Zx.dt 1 (n22 a b b c) = a := by
  show (0 : Int) + Zx.sgn 0 * n22 a b b c 0 0 * 1 = a
  show (0 : Int) + 1 * a * 1 = a
  omega
theorem gr_sf {a b c : Int} (ha : -9 ≤ a ∧ a ≤ 9) (hb : -9 ≤ b ∧ b ≤ 9) (hc : -9 ≤ c ∧ c ≤ 9) : Sf 2 (n22 a b b c) (Mx.tab 2 2 (n22 a b b c)) :=
  ⟨⟨rfl, by decide, by decide, fun i j hi hj => by
    have h1 : i = 0 ∨ i = 1 := by omega
    have h2 : j = 0 ∨ j = 1 := by omega
    rcases h1 with rfl | rfl <;> rcases h2 with rfl | rfl <;> assumption⟩, by decide, fun i j hi hj => by
    have h1 : i = 0 ∨ i = 1 := by omega
    have h2 : j = 0 ∨ j = 1 := by omega
    rcases h1 with rfl | rfl <;> rcases h2 with rfl | rfl <;> rfl⟩
theorem gr_pos {a b c : Int} (ha : 0 < a) (h : 0 < a * c - b * b) : posB 2 (n22 a b b c) = true := posB_iff.2 fun k h1 h2 => by
  have h3 : k = 1 ∨ k = 2 := by omega
  rcases h3 with rfl | rfl
  · rw [gr_one]; exact ha
  · rw [gr_dt]; exact h
theorem gr_qf (a b c i j : Int) : Zx.qf 2 (n22 a b b c) (n2 i j) = a * i * i + 2 * b * i * j + c * j * j := by
  show (0 + i * (0 + a * i + b * j) + j * (0 + b * i + c * j)) = _
  grind
theorem two_small {x : Int} (h : -2 ≤ x ∧ x ≤ 2) : okc x = true := okc_iff.2 ⟨by omega, by omega⟩
set_option maxHeartbeats 6400000 in
set_option maxRecDepth 100000 in
theorem walk_TopGram (x y z t i j : Int) (w : World) :
    Calls Try.prog 6 #[.agg #[.int .i64 x, .int .i64 y], .agg #[.int .i64 z, .int .i64 t], .int .i64 i, .int .i64 j] w fun e w' => e = .returned (.bool true) ∧ Kp w w' := by
  have K0 := Lib.hid (((Kp.rfl' w).new (.cells #[.int .i64 x, .int .i64 y] 23)).new (.cells #[.int .i64 z, .int .i64 t] 23))
  have B1 := Lib.hid ((VBox.made w (x, y) 23 _ rfl).keep ((Kp.rfl' _).new (.cells #[.int .i64 z, .int .i64 t] 23)))
  have B2 := Lib.hid (VBox.made (w.alloc (.cells #[.int .i64 x, .int .i64 y] 23)) (z, t) 23 (w.heap.size + 1) (by simp))
  have D1 := Lib.hid (fun (w1 : World) => DIs_ok (some ⟨w1.heap.size + 1, 0, none⟩) _ _ 1 1 (l11 w1 w1.heap.size 1) (l11_lies w1 w1.heap.size 1 rfl) l11_sf)
  rw [l11_pos] at D1
  rcases lt_or (x, y) (z, t) with h | h
  rotate_left
  · have A := Lib.hid (fun w => Area_no x y z t w h)
    rw [errOf_ne _ h] at A
    generalize lcd (x, y) (z, t) = cc at *
    clear h
    go_enter Try.func6, Try.ntmps6
    go_wp2_with fail
    refine (A.out _).mono ?_; rintro e w1 ⟨rfl, k1⟩
    have K1 := Lib.hid (K0.out.trans k1)
    clear k1
    go_wp2_with fail
    refine (D1.out _).mono ?_; rintro e w2 ⟨rfl, k2⟩
    have K2 := Lib.hid (K1.out.trans ((l11_kp w1 w1.heap.size 1).trans k2))
    clear k2
    go_wp2_with fail
    go_ret
    exact ⟨rfl, K2.out⟩
  have A := Lib.hid (fun w => Area_ok x y z t w h)
  have NE := Lib.hid h.ne
  clear h
  obtain ⟨px, hpx⟩ : ∃ p, p = (decide (-2 ≤ x) && decide (x ≤ 2)) := ⟨_, rfl⟩
  have Ix := Lib.hid (fun w => topIn_any x (-2) 2 w px hpx.symm)
  obtain ⟨py, hpy⟩ : ∃ p, p = (decide (-2 ≤ y) && decide (y ≤ 2)) := ⟨_, rfl⟩
  have Iy := Lib.hid (fun w => topIn_any y (-2) 2 w py hpy.symm)
  obtain ⟨pz, hpz⟩ : ∃ p, p = (decide (-2 ≤ z) && decide (z ≤ 2)) := ⟨_, rfl⟩
  have Iz := Lib.hid (fun w => topIn_any z (-2) 2 w pz hpz.symm)
  obtain ⟨pt, hpt⟩ : ∃ p, p = (decide (-2 ≤ t) && decide (t ≤ 2)) := ⟨_, rfl⟩
  have It := Lib.hid (fun w => topIn_any t (-2) 2 w pt hpt.symm)
  obtain ⟨pi, hpi⟩ : ∃ p, p = (decide (-100 ≤ i) && decide (i ≤ 100)) := ⟨_, rfl⟩
  have Ii := Lib.hid (fun w => topIn_any i (-100) 100 w pi hpi.symm)
  obtain ⟨pj, hpj⟩ : ∃ p, p = (decide (-100 ≤ j) && decide (j ≤ 100)) := ⟨_, rfl⟩
  have Ij := Lib.hid (fun w => topIn_any j (-100) 100 w pj hpj.symm)
  cases px
  · clear NE hpx hpy hpz hpt hpi hpj
    go_enter Try.func6, Try.ntmps6
    go_wp2_with fail
    refine (A.out _).mono ?_; rintro e w1 ⟨rfl, k1⟩
    have KL := Lib.hid (k1.trans (l11_kp w1 w1.heap.size 1))
    have K1 := Lib.hid (K0.out.trans k1)
    clear k1
    go_wp2_with fail
    refine (D1.out _).mono ?_; rintro e w2 ⟨rfl, k2⟩
    have K2 := Lib.hid (K1.out.trans ((l11_kp w1 w1.heap.size 1).trans k2))
    have C1 := Lib.hid (B1.out.keep (KL.out.trans k2))
    have C2 := Lib.hid (B2.out.keep (KL.out.trans k2))
    have y1 := C1.out.c1
    have y2 := C1.out.c2
    have y3 := C2.out.c1
    have y4 := C2.out.c2
    dsimp only at y1 y2 y3 y4
    clear k2
    go_wp2_with fail
    refine (Ix.out _).mono ?_; rintro e w3 ⟨rfl, rfl⟩
    go_wp2_with fail
    go_ret
    exact ⟨rfl, K2.out⟩
  have lx : -2 ≤ x ∧ x ≤ 2 := by simpa using hpx.symm
  clear hpx
  cases py
  · clear NE hpy hpz hpt hpi hpj
    go_enter Try.func6, Try.ntmps6
    go_wp2_with fail
    refine (A.out _).mono ?_; rintro e w1 ⟨rfl, k1⟩
    have KL := Lib.hid (k1.trans (l11_kp w1 w1.heap.size 1))
    have K1 := Lib.hid (K0.out.trans k1)
    clear k1
    go_wp2_with fail
    refine (D1.out _).mono ?_; rintro e w2 ⟨rfl, k2⟩
    have K2 := Lib.hid (K1.out.trans ((l11_kp w1 w1.heap.size 1).trans k2))
    have C1 := Lib.hid (B1.out.keep (KL.out.trans k2))
    have C2 := Lib.hid (B2.out.keep (KL.out.trans k2))
    have y1 := C1.out.c1
    have y2 := C1.out.c2
    have y3 := C2.out.c1
    have y4 := C2.out.c2
    dsimp only at y1 y2 y3 y4
    clear k2
    go_wp2_with fail
    refine (Ix.out _).mono ?_; rintro e w3 ⟨rfl, rfl⟩
    go_wp2_with fail
    refine (Iy.out _).mono ?_; rintro e w3 ⟨rfl, rfl⟩
    go_wp2_with fail
    go_ret
    exact ⟨rfl, K2.out⟩
  have ly : -2 ≤ y ∧ y ≤ 2 := by simpa using hpy.symm
  clear hpy
  cases pz
  · clear NE hpz hpt hpi hpj
    go_enter Try.func6, Try.ntmps6
    go_wp2_with fail
    refine (A.out _).mono ?_; rintro e w1 ⟨rfl, k1⟩
    have KL := Lib.hid (k1.trans (l11_kp w1 w1.heap.size 1))
    have K1 := Lib.hid (K0.out.trans k1)
    clear k1
    go_wp2_with fail
    refine (D1.out _).mono ?_; rintro e w2 ⟨rfl, k2⟩
    have K2 := Lib.hid (K1.out.trans ((l11_kp w1 w1.heap.size 1).trans k2))
    have C1 := Lib.hid (B1.out.keep (KL.out.trans k2))
    have C2 := Lib.hid (B2.out.keep (KL.out.trans k2))
    have y1 := C1.out.c1
    have y2 := C1.out.c2
    have y3 := C2.out.c1
    have y4 := C2.out.c2
    dsimp only at y1 y2 y3 y4
    clear k2
    go_wp2_with fail
    refine (Ix.out _).mono ?_; rintro e w3 ⟨rfl, rfl⟩
    go_wp2_with fail
    refine (Iy.out _).mono ?_; rintro e w3 ⟨rfl, rfl⟩
    go_wp2_with fail
    refine (Iz.out _).mono ?_; rintro e w3 ⟨rfl, rfl⟩
    go_wp2_with fail
    go_ret
    exact ⟨rfl, K2.out⟩
  have lz : -2 ≤ z ∧ z ≤ 2 := by simpa using hpz.symm
  clear hpz
  cases pt
  · clear NE hpt hpi hpj
    go_enter Try.func6, Try.ntmps6
    go_wp2_with fail
    refine (A.out _).mono ?_; rintro e w1 ⟨rfl, k1⟩
    have KL := Lib.hid (k1.trans (l11_kp w1 w1.heap.size 1))
    have K1 := Lib.hid (K0.out.trans k1)
    clear k1
    go_wp2_with fail
    refine (D1.out _).mono ?_; rintro e w2 ⟨rfl, k2⟩
    have K2 := Lib.hid (K1.out.trans ((l11_kp w1 w1.heap.size 1).trans k2))
    have C1 := Lib.hid (B1.out.keep (KL.out.trans k2))
    have C2 := Lib.hid (B2.out.keep (KL.out.trans k2))
    have y1 := C1.out.c1
    have y2 := C1.out.c2
    have y3 := C2.out.c1
    have y4 := C2.out.c2
    dsimp only at y1 y2 y3 y4
    clear k2
    go_wp2_with fail
    refine (Ix.out _).mono ?_; rintro e w3 ⟨rfl, rfl⟩
    go_wp2_with fail
    refine (Iy.out _).mono ?_; rintro e w3 ⟨rfl, rfl⟩
    go_wp2_with fail
    refine (Iz.out _).mono ?_; rintro e w3 ⟨rfl, rfl⟩
    go_wp2_with fail
    refine (It.out _).mono ?_; rintro e w3 ⟨rfl, rfl⟩
    go_wp2_with fail
    go_ret
    exact ⟨rfl, K2.out⟩
  have lt : -2 ≤ t ∧ t ≤ 2 := by simpa using hpt.symm
  clear hpt
  cases pi
  · clear NE hpi hpj
    go_enter Try.func6, Try.ntmps6
    go_wp2_with fail
    refine (A.out _).mono ?_; rintro e w1 ⟨rfl, k1⟩
    have KL := Lib.hid (k1.trans (l11_kp w1 w1.heap.size 1))
    have K1 := Lib.hid (K0.out.trans k1)
    clear k1
    go_wp2_with fail
    refine (D1.out _).mono ?_; rintro e w2 ⟨rfl, k2⟩
    have K2 := Lib.hid (K1.out.trans ((l11_kp w1 w1.heap.size 1).trans k2))
    have C1 := Lib.hid (B1.out.keep (KL.out.trans k2))
    have C2 := Lib.hid (B2.out.keep (KL.out.trans k2))
    have y1 := C1.out.c1
    have y2 := C1.out.c2
    have y3 := C2.out.c1
    have y4 := C2.out.c2
    dsimp only at y1 y2 y3 y4
    clear k2
    go_wp2_with fail
    refine (Ix.out _).mono ?_; rintro e w3 ⟨rfl, rfl⟩
    go_wp2_with fail
    refine (Iy.out _).mono ?_; rintro e w3 ⟨rfl, rfl⟩
    go_wp2_with fail
    refine (Iz.out _).mono ?_; rintro e w3 ⟨rfl, rfl⟩
    go_wp2_with fail
    refine (It.out _).mono ?_; rintro e w3 ⟨rfl, rfl⟩
    go_wp2_with fail
    refine (Ii.out _).mono ?_; rintro e w3 ⟨rfl, rfl⟩
    go_wp2_with fail
    go_ret
    exact ⟨rfl, K2.out⟩
  have li : -100 ≤ i ∧ i ≤ 100 := by simpa using hpi.symm
  clear hpi
  cases pj
  · clear NE hpj
    go_enter Try.func6, Try.ntmps6
    go_wp2_with fail
    refine (A.out _).mono ?_; rintro e w1 ⟨rfl, k1⟩
    have KL := Lib.hid (k1.trans (l11_kp w1 w1.heap.size 1))
    have K1 := Lib.hid (K0.out.trans k1)
    clear k1
    go_wp2_with fail
    refine (D1.out _).mono ?_; rintro e w2 ⟨rfl, k2⟩
    have K2 := Lib.hid (K1.out.trans ((l11_kp w1 w1.heap.size 1).trans k2))
    have C1 := Lib.hid (B1.out.keep (KL.out.trans k2))
    have C2 := Lib.hid (B2.out.keep (KL.out.trans k2))
    have y1 := C1.out.c1
    have y2 := C1.out.c2
    have y3 := C2.out.c1
    have y4 := C2.out.c2
    dsimp only at y1 y2 y3 y4
    clear k2
    go_wp2_with fail
    refine (Ix.out _).mono ?_; rintro e w3 ⟨rfl, rfl⟩
    go_wp2_with fail
    refine (Iy.out _).mono ?_; rintro e w3 ⟨rfl, rfl⟩
    go_wp2_with fail
    refine (Iz.out _).mono ?_; rintro e w3 ⟨rfl, rfl⟩
    go_wp2_with fail
    refine (It.out _).mono ?_; rintro e w3 ⟨rfl, rfl⟩
    go_wp2_with fail
    refine (Ii.out _).mono ?_; rintro e w3 ⟨rfl, rfl⟩
    go_wp2_with fail
    refine (Ij.out _).mono ?_; rintro e w3 ⟨rfl, rfl⟩
    go_wp2_with fail
    go_ret
    exact ⟨rfl, K2.out⟩
  have lj : -100 ≤ j ∧ j ≤ 100 := by simpa using hpj.symm
  clear hpj
  have m1 := Lag.prod_le 2 2 lx lx
  have m2 := Lag.prod_le 2 2 ly ly
  have m3 := Lag.prod_le 2 2 lz lz
  have m4 := Lag.prod_le 2 2 lt lt
  have m5 := Lag.prod_le 2 2 lx lz
  have m6 := Lag.prod_le 2 2 ly lt
  have m7 := Lag.prod_le 100 2 li lx
  have m8 := Lag.prod_le 100 2 li ly
  have m9 := Lag.prod_le 100 2 lj lz
  have m10 := Lag.prod_le 100 2 lj lt
  have o1 := Lag.prod_le 2 2 lx lt
  have o2 := Lag.prod_le 2 2 ly lz
  have q1 := Lag.prod_le 400 400 (x := i * x + j * z) (y := i * x + j * z) (by omega) (by omega)
  have q2 := Lag.prod_le 400 400 (x := i * y + j * t) (y := i * y + j * t) (by omega) (by omega)
  have sx := Lag.sq_nn x
  have sy := Lag.sq_nn y
  have sz := Lag.sq_nn z
  have st := Lag.sq_nn t
  obtain ⟨a, ha⟩ : ∃ a, a = x * x + y * y := ⟨_, rfl⟩
  obtain ⟨b, hb⟩ : ∃ b, b = x * z + y * t := ⟨_, rfl⟩
  obtain ⟨c, hc⟩ : ∃ c, c = z * z + t * t := ⟨_, rfl⟩
  obtain ⟨n, hn⟩ : ∃ n, n = ((ar (x, y) (z, t)).natAbs : Int) := ⟨_, rfl⟩
  have hn2 : n * n = a * c - b * b := by
    have e1 : ar (x, y) (z, t) * ar (x, y) (z, t) = n * n := by
      have e := Int.natAbs_mul_self (a := ar (x, y) (z, t))
      rw [hn]; exact e.symm
    have e2 := Lag.lagrange (x, y) (z, t)
    rw [← e1, ← e2, ha, hb, hc]; rfl
  have hn3 : 1 ≤ n ∧ n ≤ 8 := by
    have := NE.out
    refine ⟨by omega, ?_⟩
    rw [hn]; unfold ar; dsimp only; omega
  have hnn := Int.mul_pos (show 0 < n by omega) (show 0 < n by omega)
  have hn4 := Lag.prod_le 8 8 (x := n) (y := n) (by omega) (by omega)
  have ha0 : 0 < a := by
    rcases Int.lt_or_le 0 a with g | g
    · exact g
    · exfalso
      have e : a = 0 := by omega
      have := Lag.sq_nn b
      rw [e] at hn2; omega
  have P1 := Lib.hid (gr_pos ha0 (show 0 < a * c - b * b by omega))
  have SF := Lib.hid (gr_sf (a := a) (b := b) (c := c) (by omega) (by omega) (by omega))
  have QF := Lib.hid (show Zx.qf 2 (n22 a b b c) (n2 i j) = (i * x + j * z) * (i * x + j * z) + (i * y + j * t) * (i * y + j * t) by rw [gr_qf, ha, hb, hc]; grind)
  have DT := Lib.hid (show leads 2 (n22 a b b c) = [a, n * n] by
    show [Zx.dt 1 (n22 a b b c), Zx.dt 2 (n22 a b b c)] = _
    rw [gr_one, gr_dt, hn2])
  have BI := Lib.hid (show ∀ k, k < 2 → -100 ≤ n2 i j k ∧ n2 i j k ≤ 100 from fun k hk => by
    unfold n2; split <;> assumption)
  have v1 : IntKind.i64.wrap (x * x) = x * x := IntWalk.i64_in _ (by omega)
  have v2 : IntKind.i64.wrap (y * y) = y * y := IntWalk.i64_in _ (by omega)
  have v3 : IntKind.i64.wrap (z * z) = z * z := IntWalk.i64_in _ (by omega)
  have v4 : IntKind.i64.wrap (t * t) = t * t := IntWalk.i64_in _ (by omega)
  have v5 : IntKind.i64.wrap (x * z) = x * z := IntWalk.i64_in _ (by omega)
  have v6 : IntKind.i64.wrap (y * t) = y * t := IntWalk.i64_in _ (by omega)
  have v7 : IntKind.i64.wrap (x * x + y * y) = a := by rw [ha]; exact IntWalk.i64_in _ (by omega)
  have v8 : IntKind.i64.wrap (x * z + y * t) = b := by rw [hb]; exact IntWalk.i64_in _ (by omega)
  have v9 : IntKind.i64.wrap (z * z + t * t) = c := by rw [hc]; exact IntWalk.i64_in _ (by omega)
  have u1 : IntKind.i64.wrap (i * x) = i * x := IntWalk.i64_in _ (by omega)
  have u2 : IntKind.i64.wrap (j * z) = j * z := IntWalk.i64_in _ (by omega)
  have u3 : IntKind.i64.wrap (i * y) = i * y := IntWalk.i64_in _ (by omega)
  have u4 : IntKind.i64.wrap (j * t) = j * t := IntWalk.i64_in _ (by omega)
  have u5 : IntKind.i64.wrap (i * x + j * z) = i * x + j * z := IntWalk.i64_in _ (by omega)
  have u6 : IntKind.i64.wrap (i * y + j * t) = i * y + j * t := IntWalk.i64_in _ (by omega)
  have u7 : IntKind.i64.wrap ((i * x + j * z) * (i * x + j * z)) = (i * x + j * z) * (i * x + j * z) := IntWalk.i64_in _ (by omega)
  have u8 : IntKind.i64.wrap ((i * y + j * t) * (i * y + j * t)) = (i * y + j * t) * (i * y + j * t) := IntWalk.i64_in _ (by omega)
  have u9 : IntKind.i64.wrap ((i * x + j * z) * (i * x + j * z) + (i * y + j * t) * (i * y + j * t)) = (i * x + j * z) * (i * x + j * z) + (i * y + j * t) * (i * y + j * t) := IntWalk.i64_in _ (by omega)
  have v0 : IntKind.i64.wrap (n * n) = n * n := IntWalk.i64_in _ (by omega)
  rw [← hn] at A
  clear lx ly lz lt li lj m1 m2 m3 m4 m5 m6 m7 m8 m9 m10 o1 o2 q1 q2 sx sy sz st ha hb hc hn hn2 hn3 hnn hn4 ha0 NE
  go_enter Try.func6, Try.ntmps6
  go_wp2_with fail
  refine (A.out _).mono ?_; rintro e w1 ⟨rfl, k1⟩
  have KL := Lib.hid (k1.trans (l11_kp w1 w1.heap.size 1))
  have K1 := Lib.hid (K0.out.trans k1)
  clear k1
  go_wp2_with fail
  refine (D1.out _).mono ?_; rintro e w2 ⟨rfl, k2⟩
  have K2 := Lib.hid (K1.out.trans ((l11_kp w1 w1.heap.size 1).trans k2))
  have C1 := Lib.hid (B1.out.keep (KL.out.trans k2))
  have C2 := Lib.hid (B2.out.keep (KL.out.trans k2))
  have y1 := C1.out.c1
  have y2 := C1.out.c2
  have y3 := C2.out.c1
  have y4 := C2.out.c2
  dsimp only at y1 y2 y3 y4
  clear k2
  have KA := Lib.hid ((Kp.rfl' w2).new (.cells #[.int .i64 a, .int .i64 b] 3))
  have r3 := (C2.out.keep KA.out).c1
  have r4 := (C2.out.keep KA.out).c2
  dsimp only at r3 r4
  have OI := Lib.hid (DIs_ok (some ⟨w2.heap.size + 1 + 1, 0, none⟩) _ _ 2 2 (lit22 w2 w2.heap.size a b b c) (lit22_lies w2 _ a b b c rfl) SF.out)
  rw [P1.out] at OI
  have LT := Lib.hid (lit22_kp w2 w2.heap.size a b b c)
  go_wp2_with fail
  refine (Ix.out _).mono ?_; rintro e w3 ⟨rfl, rfl⟩
  go_wp2_with fail
  refine (Iy.out _).mono ?_; rintro e w3 ⟨rfl, rfl⟩
  go_wp2_with fail
  refine (Iz.out _).mono ?_; rintro e w3 ⟨rfl, rfl⟩
  go_wp2_with fail
  refine (It.out _).mono ?_; rintro e w3 ⟨rfl, rfl⟩
  go_wp2_with fail
  refine (Ii.out _).mono ?_; rintro e w3 ⟨rfl, rfl⟩
  go_wp2_with fail
  refine (Ij.out _).mono ?_; rintro e w3 ⟨rfl, rfl⟩
  go_wp2_with fail
  refine (OI.out).mono ?_; rintro e w4 ⟨rfl, k4⟩
  have L4 := Lib.hid ((lit22_lies w2 _ a b b c rfl).keep k4)
  have T4 := Lib.hid (LT.out.trans k4)
  have OL := Lib.hid (Lead_ok (some ⟨w2.heap.size + 1 + 1, 0, none⟩) _ _ 2 2 w4 L4.out SF.out.shz)
  clear k4 OI y1 y2 y3 y4 r3 r4 KA
  go_wp2_with fail
  refine (OL.out).mono ?_; rintro e w5 ⟨g, rfl, hr, k5⟩
  rw [DT.out] at hr
  have L5 := Lib.hid (L4.out.keep k5)
  have T5 := Lib.hid (T4.out.trans k5)
  have HR := Lib.hid hr
  have OA := Lib.hid (DAt_ok (some ⟨w2.heap.size + 1 + 1, 0, none⟩) (some ⟨w5.heap.size, 0, none⟩) _ _ (n2 i j) 2 2 2 (w5.alloc (.cells #[.int .i64 i, .int .i64 j] 3)) (L5.out.keep ((Kp.rfl' _).new _)) SF.out (lies_new w5 3 [i, j]) BI.out)
  rw [QF.out] at OA
  clear k5 hr OL
  go_wp2_with fail
  refine (OA.out).mono ?_; rintro e w6 ⟨rfl, k6⟩
  have KN := Lib.hid (((Kp.rfl' w5).new (.cells #[.int .i64 i, .int .i64 j] 3)).trans k6)
  have T6 := Lib.hid (T5.out.trans KN.out)
  have K6 := Lib.hid (K2.out.trans T6.out)
  have y1 := (C1.out.keep T6.out).c1
  have y2 := (C1.out.keep T6.out).c2
  have y3 := (C2.out.keep T6.out).c1
  have y4 := (C2.out.keep T6.out).c2
  have y5 := (KN.out.cell (p := ⟨g, 1, none⟩) HR.out.lt).trans (HR.out.cell 1 (by simp))
  have y6 : w6.cell? ⟨g, 1, none⟩ = some (.int .i64 (n * n)) := y5
  have e1 : (n * n == n * n) = true := beq_self_eq_true _
  dsimp only at y1 y2 y3 y4
  clear k6 OA y5
  go_wp2_with fail
  go_ret
  exact ⟨rfl, K6.out⟩
end Go.Proofs.Ytlnehhhlpdaebaa
