/- Contracts of package smith, third part: the iterator over determinants of some rows and columns. -/
import Derived.Test.YtlnehhhlpdaebaaSmC2
import Derived.Shelf.RegionOpen
namespace Go.Proofs.Ytlnehhhlpdaebaa
open Go.ChangeShapes Go.WideShapes Go.ChangeAt Go.RowKit Go.Shelf
set_option linter.unusedVariables false
attribute [local go_sem] Oper.semAt_some

set_option maxHeartbeats 800000 in
theorem minors_any (M : Option Addr) (n dm : Nat) (many : Int) (w : World) :
    Calls Try.prog 53 #[.slice M n dm, .int .i64 many] w fun e w' =>
      e = .returned (.func (.func 56) #[] #[.pointer (some ⟨w.heap.size, 0, none⟩), .pointer (some ⟨w.heap.size + 1, 0, none⟩)]) ∧
        w' = (w.alloc (.cells #[.slice M n dm] 40)).alloc (.cells #[.int .i64 many] 3) := by
  go_enter Try.func53, Try.ntmps53
  go_wp2
  go_ret
  exact ⟨rfl, rfl⟩

def miEnc (x : Int) : Array Value := #[.int .i64 x]
/-- What lies in the three variables of the iterator. -/
structure Mi3 (Y B0 B1 l n dm many : Nat) (M : Option Addr) (W : World) : Prop where
  y : W.cell? ⟨Y, 0, none⟩ = some (.func (.yield l) #[] #[])
  m : W.cell? ⟨B0, 0, none⟩ = some (.slice M n dm)
  s : W.cell? ⟨B1, 0, none⟩ = some (.int .i64 (many : Int))
theorem Mi3.below {Y B0 B1 l n dm many B : Nat} {M : Option Addr} {W W' : World} (h : Mi3 Y B0 B1 l n dm many M W) (k : Below B W W') (h0 : Y < B) (h1 : B0 < B) (h2 : B1 < B) : Mi3 Y B0 B1 l n dm many M W' :=
  ⟨(k.cell (p := ⟨Y, 0, none⟩) h0).trans h.y, (k.cell (p := ⟨B0, 0, none⟩) h1).trans h.m, (k.cell (p := ⟨B1, 0, none⟩) h2).trans h.s⟩
theorem Mi3.kept {Y B0 B1 l n dm many : Nat} {T : Nat → Prop} {M : Option Addr} {W W' : World} (h : Mi3 Y B0 B1 l n dm many M W) (k : Kept T W W') (h0 : ¬ T Y) (h1 : ¬ T B0) (h2 : ¬ T B1) : Mi3 Y B0 B1 l n dm many M W' :=
  ⟨(k.cell (p := ⟨Y, 0, none⟩) (cell_lt h.y) h0).trans h.y, (k.cell (p := ⟨B0, 0, none⟩) (cell_lt h.m) h1).trans h.m, (k.cell (p := ⟨B1, 0, none⟩) (cell_lt h.s) h2).trans h.s⟩

set_option maxRecDepth 100000 in
set_option maxHeartbeats 6400000 in
theorem minors_in (B0 B1 n dm many : Nat) (M : Option Addr) (f : Nat → Nat → Int) (hf : ∀ i j, i < n → j < n → (f i j).natAbs ≤ 20) (hn3 : n ≤ 3) (hm : many ≤ 3) (hm1 : 1 ≤ many) (T : Nat → Prop) (t0 : ¬ T B0) (t1 : ¬ T B1)
    (wm : World) (hM : LiesM wm M (Mx.tab n n f)) (hTm : ∀ k, T k → wm.heap.size ≤ k) (w0 : World) (km0 : Kp wm w0)
    (c0 : w0.cell? ⟨B0, 0, none⟩ = some (.slice M n dm)) (c1 : w0.cell? ⟨B1, 0, none⟩ = some (.int .i64 (many : Int))) :
    SeqLo Fence.wide 12 Try.prog 56 #[.pointer (some ⟨B0, 0, none⟩), .pointer (some ⟨B1, 0, none⟩)] miEnc (fun x _ => x.natAbs ≤ 216000) T (fun xs => xs = Zx.mns f (Zx.chn n many) (Zx.chn n many)) (2 ^ n * 2 ^ n) w0 := by
  intro l J W hW hT hJ hY h0
  have b0 := cell_lt c0
  have b1 := cell_lt c1
  have hsz := hW.size
  have x0 := (hW.cell (p := ⟨B0, 0, none⟩) b0).trans c0
  have x1 := (hW.cell (p := ⟨B1, 0, none⟩) b1).trans c1
  have kmW : Kp wm W := km0.trans hW
  have B0W : B0 < W.heap.size := by have : B0 < w0.heap.size := b0; omega
  have B1W : B1 < W.heap.size := by have : B1 < w0.heap.size := b1; omega
  clear c0 c1 hW b0 b1 hsz km0
  refine callsIn_of_wp_marks Try.func56 rfl trivial ?_ rfl
  simp only [Try.ntmps56, List.size_toArray, List.length_cons, List.length_nil, Nat.reduceAdd, Nat.reduceSub, Array.replicate_succ, Array.replicate_zero, List.push_toArray, List.append_toArray, List.nil_append, List.cons_append]
  gi_wp2
  refine ⟨trivial, ?_⟩
  refine (callsIn_wide.2 (choices_any _ _ _)).mono ?_; rintro e w1 ⟨rfl, hw1⟩
  have k1 : Kp W w1 := by rw [hw1]; exact (((Kp.rfl' W).new _).new _).new _
  have s1 : W.heap.size + 3 ≤ w1.heap.size := by rw [hw1]; simp
  have z0 : w1.cell? ⟨W.heap.size + 1, 0, none⟩ = some (.int .i64 (n : Int)) := by
    rw [hw1]; exact (((Kp.rfl' _).new _).cell (p := ⟨W.heap.size + 1, 0, none⟩) (by simp)).trans ((cell_made (W.alloc _) _ _ (W.heap.size + 1) 0 (by simp)).trans rfl)
  have z1 : w1.cell? ⟨W.heap.size + 1 + 1, 0, none⟩ = some (.int .i64 (many : Int)) := by
    rw [hw1]; exact (cell_made _ _ _ (W.heap.size + 1 + 1) 0 (by simp)).trans rfl
  have M1 : Mi3 W.heap.size B0 B1 l n dm many M w1 :=
    ⟨by rw [hw1]; exact ((((Kp.rfl' _).new _).new _).cell (p := ⟨W.heap.size, 0, none⟩) (by simp)).trans ((cell_made W _ _ W.heap.size 0 rfl).trans rfl), (k1.cell (p := ⟨B0, 0, none⟩) B0W).trans x0, (k1.cell (p := ⟨B1, 0, none⟩) B1W).trans x1⟩
  have e1 : (W.alloc (.cells #[.func (.yield l) #[] #[]] 58)).heap.size = W.heap.size + 1 := by simp
  rw [e1]
  clear hw1 x0 x1 e1
  have HT := Lib.hid hT
  have HJ := Lib.hid hJ
  have HY := Lib.hid hY
  have TY : ¬ T W.heap.size := fun h => by have := hT _ h; omega
  have wmW := kmW.size
  have q0 : ∀ k, W.heap.size ≤ k → k < w1.heap.size → ¬ (T k ∨ k = w1.heap.size + 1) := fun k h1 h2 h => by
    rcases h with h | h
    · have := hT k h; omega
    · omega
  have hI1 : ∀ (s : List Chc) (A B : World), (J (Zx.mns f (Zx.chn n many) (s.map (·.1))) A ∧ Mi3 W.heap.size B0 B1 l n dm many M A ∧ Kp wm A) → Below w1.heap.size A B → (J (Zx.mns f (Zx.chn n many) (s.map (·.1))) B ∧ Mi3 W.heap.size B0 B1 l n dm many M B ∧ Kp wm B) := fun s A B h k =>
    ⟨hJ _ _ _ h.1 (k.mono (by omega)), h.2.1.below k (by omega) (by omega) (by omega), Below.trans h.2.2 (k.mono (by omega))⟩
  gi_wp2
  refine wpIn_rangeLow (F := Fence.wide) (n := 12) rfl (by decide) (gf := 62) (lb := #[.pointer (some ⟨W.heap.size + 1, 0, none⟩), .pointer (some ⟨W.heap.size + 1 + 1, 0, none⟩)]) rfl trivial (enters_of Try.func62 (by kernel_rfl) rfl) (T0 := T)
    (fun k h => by have := hT k h; omega)
    (choices_in 11 (by decide) (W.heap.size + 1) (W.heap.size + 1 + 1) n many hn3 hm hm1 (fun k => T k ∨ k = w1.heap.size + 1) (q0 _ (by omega) (by omega)) (q0 _ (by omega) (by omega)) w1 z0 z1) (fun _ => rfl)
    (fun (pre : List Chc) Wc => J (Zx.mns f (Zx.chn n many) (pre.map (·.1))) Wc ∧ Mi3 W.heap.size B0 B1 l n dm many M Wc ∧ Kp wm Wc)
    hI1
    ⟨hJ _ _ _ h0 k1, M1, Below.trans kmW (k1.mono wmW)⟩
    (fun x a' Wc => ∃ Bx, w1.heap.size + 1 < Bx ∧ Bx < Wc.heap.size ∧ Wc.cell? ⟨Bx, 0, none⟩ = some (.slice x.2.1 x.1.length x.2.2) ∧ ChW w1.heap.size n many x Wc ∧
      a' = { tmps := #[.func (.yield l) #[] #[], .pointer (some ⟨B0, 0, none⟩), .pointer (some ⟨B1, 0, none⟩), .pointer (some ⟨W.heap.size, 0, none⟩), .pointer (some ⟨Bx, 0, none⟩), undef, .slice M n dm, .int .i64 (n : Int), .int .i64 (many : Int),
        .func (.func 62) #[] #[.pointer (some ⟨W.heap.size + 1, 0, none⟩), .pointer (some ⟨W.heap.size + 1 + 1, 0, none⟩)], .slice x.2.1 x.1.length x.2.2, undef, undef, undef, undef, undef, undef, undef, undef, undef, undef, undef, undef], defers := [] })
    (fun x a' A r o hr ⟨Bx, h1, h2, h3, h4, h5⟩ => ⟨Bx, h1, by simpa using h2, cell_kept h3 (grownBy_putObj' A _ o) (fun r' e' => by cases e'; exact ⟨_, hr, rfl⟩), ⟨h4.1.putLoop hr o, h4.2⟩, h5⟩)
    ?assign ?body ?done
  case assign =>
    rintro pre x Wc K hlt ⟨hi, h3, hk⟩ hx hK
    unfold chEnc
    gi_wp2
    refine hK _ _ ((Kp.rfl' Wc).new _) ⟨Wc.heap.size, hlt, by simp, (cell_made Wc _ _ Wc.heap.size 0 rfl).trans rfl, ⟨hx.1.keep ((Kp.rfl' Wc).new _), hx.2⟩, rfl⟩
  case done =>
    rintro xs Wc hlt hS ⟨hi, h3, hk⟩ hD
    rw [hS] at hi
    gi_wp2
    refine ⟨by simp, .inl ⟨_, _, rfl, run_takeDeferred hD, ?_⟩⟩
    exact ⟨_, results_none rfl _ _ _, ⟨_, rfl⟩, _, rfl, hJ _ _ _ hi (below_putObj Wc _ _ (by omega))⟩
  case body =>
    rintro pre x a' Wc hlt ⟨r, hr⟩ ⟨hi, h3, hk⟩ ⟨Bx, g1, g2, g3, g4, rfl⟩ hlen
    have y0 := h3.m
    have y1 := h3.s
    gi_wp2
    refine ⟨trivial, ?_⟩
    refine (CallsIn.inRound _ (callsIn_wide.2 (choices_any _ _ _))).mono ?_; rintro e w2 ⟨rfl, hw2⟩
    have k2 : Kp Wc w2 := by rw [hw2]; exact ((Kp.rfl' Wc).new _).new _
    have s2 : Wc.heap.size + 2 ≤ w2.heap.size := by rw [hw2]; simp
    have v0 : w2.cell? ⟨Wc.heap.size, 0, none⟩ = some (.int .i64 (n : Int)) := by
      rw [hw2]; exact (((Kp.rfl' _).new _).cell (p := ⟨Wc.heap.size, 0, none⟩) (by simp)).trans ((cell_made Wc _ _ Wc.heap.size 0 rfl).trans rfl)
    have v1 : w2.cell? ⟨Wc.heap.size + 1, 0, none⟩ = some (.int .i64 (many : Int)) := by
      rw [hw2]; exact (cell_made _ _ _ (Wc.heap.size + 1) 0 (by simp)).trans rfl
    clear hw2 y0 y1
    gi_wp2
    have TB : ¬ T Bx := fun h => by have := hT _ h; omega
    have TX : ∀ ad, x.2.1 = some ad → ¬ T ad.block := fun ad e h => by have := hT _ h; have := g4.2.2.2.2 ad e; omega
    have szW : W.heap.size ≤ Wc.heap.size := by omega
    have wmc := hk.size
    have q2 : ∀ k, Wc.heap.size ≤ k → k < w2.heap.size → ¬ (T k ∨ k = w2.heap.size) := fun k h1 h2 h => by
      rcases h with h | h
      · have := hT k h; omega
      · omega
    have hI2 : ∀ (s : List Chc) (A B : World), (J (Zx.mns f (Zx.chn n many) (pre.map (·.1)) ++ (s.map (·.1)).map (Zx.mnr f x.1)) A ∧ Mi3 W.heap.size B0 B1 l n dm many M A ∧ Kp wm A ∧ A.cell? ⟨Bx, 0, none⟩ = some (.slice x.2.1 x.1.length x.2.2) ∧ LiesIn A w2.heap.size x.2.1 (nz x.1) ∧ Kept T Wc A) → Below w2.heap.size A B →
        (J (Zx.mns f (Zx.chn n many) (pre.map (·.1)) ++ (s.map (·.1)).map (Zx.mnr f x.1)) B ∧ Mi3 W.heap.size B0 B1 l n dm many M B ∧ Kp wm B ∧ B.cell? ⟨Bx, 0, none⟩ = some (.slice x.2.1 x.1.length x.2.2) ∧ LiesIn B w2.heap.size x.2.1 (nz x.1) ∧ Kept T Wc B) := fun s A B h k =>
      ⟨hJ _ _ _ h.1 (k.mono (by omega)), h.2.1.below k (by omega) (by omega) (by omega), Below.trans h.2.2.1 (k.mono (by omega)), (k.cell (p := ⟨Bx, 0, none⟩) (by show Bx < _; omega)).trans h.2.2.2.1, h.2.2.2.2.1.below k, h.2.2.2.2.2.next k (by omega)⟩
    refine wpIn_rangeLowN (F := Fence.wide.inRound (w1.heap.size + 1)) (n := 10) (l₀ := w1.heap.size + 1) (r₀ := r) rfl ((k2.block _ hlt).trans hr) (by decide) (gf := 62) (lb := #[.pointer (some ⟨Wc.heap.size, 0, none⟩), .pointer (some ⟨Wc.heap.size + 1, 0, none⟩)]) rfl trivial (enters_of Try.func62 (by kernel_rfl) rfl) (T0 := T)
      (fun k h => by have := hT k h; omega)
      ((choices_in 9 (by decide) Wc.heap.size (Wc.heap.size + 1) n many hn3 hm hm1 (fun k => T k ∨ k = w2.heap.size) (q2 _ (by omega) (by omega)) (q2 _ (by omega) (by omega)) w2 v0 v1).inRound _) (fun _ => rfl)
      (fun (s : List Chc) A => J (Zx.mns f (Zx.chn n many) (pre.map (·.1)) ++ (s.map (·.1)).map (Zx.mnr f x.1)) A ∧ Mi3 W.heap.size B0 B1 l n dm many M A ∧ Kp wm A ∧ A.cell? ⟨Bx, 0, none⟩ = some (.slice x.2.1 x.1.length x.2.2) ∧ LiesIn A w2.heap.size x.2.1 (nz x.1) ∧ Kept T Wc A)
      hI2
      ⟨by rw [List.map_nil, List.map_nil, List.append_nil]; exact hJ _ _ _ hi (k2.mono szW), h3.below k2 (by omega) (by omega) (by omega), hk.trans k2, (k2.cell (p := ⟨Bx, 0, none⟩) g2).trans g3, (g4.1.keep k2).in, Kept.of k2⟩
      (fun y a' A => ChW w2.heap.size n many y A ∧
        a' = { tmps := #[.func (.yield l) #[] #[], .pointer (some ⟨B0, 0, none⟩), .pointer (some ⟨B1, 0, none⟩), .pointer (some ⟨W.heap.size, 0, none⟩), .pointer (some ⟨Bx, 0, none⟩), .slice y.2.1 y.1.length y.2.2, .slice M n dm, .int .i64 (n : Int), .int .i64 (many : Int),
          .func (.func 62) #[] #[.pointer (some ⟨W.heap.size + 1, 0, none⟩), .pointer (some ⟨W.heap.size + 1 + 1, 0, none⟩)], .slice x.2.1 x.1.length x.2.2, .slice M n dm, .int .i64 (n : Int), .int .i64 (many : Int),
          .func (.func 62) #[] #[.pointer (some ⟨Wc.heap.size, 0, none⟩), .pointer (some ⟨Wc.heap.size + 1, 0, none⟩)], .slice y.2.1 y.1.length y.2.2, undef, undef, undef, undef, undef, undef, undef], defers := [] })
      (fun y a' A r o hr ⟨h4, h5⟩ => ⟨⟨h4.1.putLoop hr o, h4.2⟩, h5⟩)
      ?assign2 ?body2 ?done2
    case assign2 =>
      rintro pre' y A K hlt2 hs hy hK
      unfold chEnc
      gi_wp2
      exact hK _ _ (Kp.rfl' _) ⟨hy, rfl⟩
    case done2 =>
      rintro ys A hlt2 hS ⟨hj, h3', hk', _, _, hkept⟩
      gi_wp2
      refine ⟨hkept, ?_, h3', hk'⟩
      rw [hS] at hj
      rw [List.map_append, List.map_singleton, Zx.mns_snoc]
      exact hj
    case body2 =>
      rintro pre' y a' A hlt2 ⟨r2, hr2⟩ ⟨hj, h3', hk', hbx, hlx, hkept⟩ ⟨hy, rfl⟩ hlen2
      have MN := Lib.hid (fun (A' : World) (k : Kp A A') => (show Calls Try.prog 58 #[.slice M n dm, .slice x.2.1 x.1.length x.2.2, .slice y.2.1 y.1.length y.2.2] A' fun e w' => e = .returned (.int .i64 (Zx.mnr f x.1 y.1)) ∧ Kp A' w' from by
        have kx := g4.2.2.2.1
        have ky := hy.2.2.2.1
        have h := minor_any hf M dm hn3 many hm x.1 y.1 x.2.1 y.2.1 x.2.2 y.2.2 A' kx ky g4.2.2.1 hy.2.2.1 (by have := g4.2.1; omega) (by have := hy.2.1; omega) (hM.keep (hk'.trans k)) ((hlx.lies (by omega)).keep k) (hy.1.keep k)
        rw [kx, ky]
        exact h))
      have CB := Lib.hid (fun (A' : World) (k : Kp A A') => (show (A'.cell? ⟨W.heap.size, 0, none⟩ = some (.func (.yield l) #[] #[]) ∧ A'.cell? ⟨B0, 0, none⟩ = some (.slice M n dm)) ∧ A'.cell? ⟨Bx, 0, none⟩ = some (.slice x.2.1 x.1.length x.2.2) from
        ⟨⟨(k.cell (p := ⟨W.heap.size, 0, none⟩) (cell_lt h3'.y)).trans h3'.y, (k.cell (p := ⟨B0, 0, none⟩) (cell_lt h3'.m)).trans h3'.m⟩, (k.cell (p := ⟨Bx, 0, none⟩) (cell_lt hbx)).trans hbx⟩))
      have XB : (Zx.mnr f x.1 y.1).natAbs ≤ 216000 := Nat.le_trans (Zx.mnr_bound hf x.1 y.1 g4.2.2.1 hy.2.2.1 (by have := hy.2.2.2.1; omega)) (by rw [g4.2.2.2.1]; exact Nat.le_trans (Nat.pow_le_pow_right (by decide) hm) (by decide))
      have YB : (Zx.mns f (Zx.chn n many) (pre.map (·.1)) ++ (pre'.map (·.1)).map (Zx.mnr f x.1)).length < 2 ^ n * 2 ^ n := by
        rw [List.length_append, Zx.mns_len, List.length_map, List.length_map, List.length_map]
        have h1 : (Zx.chn n many).length ≤ 2 ^ n := Zx.chs_len n many (2 ^ n)
        have h2 : pre.length * (Zx.chn n many).length ≤ pre.length * 2 ^ n := Nat.mul_le_mul_left _ h1
        have h4 : (pre.length + 1) * 2 ^ n ≤ 2 ^ n * 2 ^ n := Nat.mul_le_mul_right _ (by omega)
        rw [Nat.add_mul, Nat.one_mul] at h4
        omega
      have YL := Lib.hid (fun (A' : World) (k : Kp A A') => yieldAt_any 8 (HY.out (Zx.mns f (Zx.chn n many) (pre.map (·.1)) ++ (pre'.map (·.1)).map (Zx.mnr f x.1)) (Zx.mnr f x.1 y.1) A' (hJ _ _ _ hj (k.mono (by omega))) (by have := k.size; omega) XB YB))
      have FIN := Lib.hid (fun (A3 A4 : World) (k3 : Kp A A3) (j4 : J (Zx.mns f (Zx.chn n many) (pre.map (·.1)) ++ (pre'.map (·.1)).map (Zx.mnr f x.1) ++ [Zx.mnr f x.1 y.1]) A4) (k4 : Kept T A3 A4) =>
        (show Kept T A A4 ∧ (J (Zx.mns f (Zx.chn n many) (pre.map (·.1)) ++ ((pre' ++ [y]).map (·.1)).map (Zx.mnr f x.1)) A4 ∧ Mi3 W.heap.size B0 B1 l n dm many M A4 ∧ Kp wm A4 ∧ A4.cell? ⟨Bx, 0, none⟩ = some (.slice x.2.1 x.1.length x.2.2) ∧ LiesIn A4 w2.heap.size x.2.1 (nz x.1) ∧ Kept T Wc A4) from by
          have ka : Kept T A A4 := (Kept.of k3).trans k4
          refine ⟨ka, ?_, h3'.kept ka TY t0 t1, Below.trans hk' (ka.below (fun k hk ht => by have := hTm k ht; omega) hk'.size), (ka.cell (p := ⟨Bx, 0, none⟩) (cell_lt hbx) TB).trans hbx, hlx.kept ka (by omega) TX, hkept.trans ka⟩
          rw [List.map_append, List.map_append, List.map_singleton, List.map_singleton, ← List.append_assoc]
          exact j4))
      have cA := CB.out A.drew ((Kp.rfl' A).drewN 1)
      obtain ⟨⟨ca1, ca2⟩, ca3⟩ := cA
      have hmix : Try.prog.follows .mixedOrders = true := by kernel_rfl
      clear XB YB hy hlen2 hj h3' hk' hbx hlx hkept hr2 hlt2 hI2 q2 wmc szW TX TB v0 v1 s2 k2 g3 g4 g1 g2 hi h3 hk hr hlt hlen hI1 q0 wmW TY M1 z0 z1 k1 s1 kmW h0 hY hJ hT hTm hM hf t0 t1 hn3 hm hm1 B0W B1W HY HJ HT
      gi_wp2
      gi_region_with_o (first
        | (refine ⟨trivial, ?_⟩; refine (callsIn_deep (MN.out _ ((Kp.rfl' A).drewN 1))).mono ?_; rintro e A3 ⟨rfl, k3⟩; have K3 := Lib.hid (((Kp.rfl' A).drewN 1).trans k3); have cA3 := CB.out A3 K3.out; obtain ⟨⟨cb1, cb2⟩, cb3⟩ := cA3; obtain ⟨fn, tmps, assign, body, hyy, hR⟩ := YL.out A3 K3.out; unfold miEnc at hyy; have RR := Lib.hid hR; clear hR k3)
        | (refine (roundIn_deep RR.out).mono ?_; rintro e A4 ⟨rfl, j4, k4⟩; have F4 := Lib.hid (FIN.out A3 A4 K3.out j4 k4); clear j4 k4))
      all_goals
        gi_wp2
        exact F4.out
end Go.Proofs.Ytlnehhhlpdaebaa
