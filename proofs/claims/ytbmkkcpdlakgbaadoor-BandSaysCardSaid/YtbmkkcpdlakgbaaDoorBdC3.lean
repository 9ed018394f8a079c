/- Contracts of package band, third part: a variable of three numbers, Det. -/
import Derived.Test.YtbmkkcpdlakgbaaDoorBdC2
namespace Go.Proofs.YtbmkkcpdlakgbaaDoor
open Go.ChangeShapes Go.WideShapes Go.ChangeAt Go.RowKit
set_option linter.unusedVariables false

/-- Behind a store of all of a variable. -/
structure Aft (ty : TypeId) (w : World) (g : Nat) (m : List Int) (w' : World) : Prop where
  own : Cl ty w' g m
  far : ∀ {ty' g' l}, g' ≠ g → Cl ty' w g' l → Cl ty' w' g' l
  kp : ∀ {w0}, Kp w0 w → w0.heap.size ≤ g → Kp w0 w'
  size : w'.heap.size = w.heap.size
section
variable {ops : Array Oper} {rest : List Oper} {o : Oper} {a : Act} {w : World} {Q : Exit → Act → World → Prop}
theorem wpList_store_aft (ty : TypeId) (hgd : o.guard = Option.none) (x y : Operand) (ho : o.op = .store ty x y) (g : Nat) (hx : a.eval x = .pointer (some ⟨g, 0, none⟩)) (m : List Int) (hy : a.eval y = .agg (ints m).toArray)
    (l : List Int) (hc : Cl ty w g l) (hl : l.length = m.length) (hi : (Tryd.prog.info? ty).map (·.size) = some m.length) (h : ∀ w', Aft ty w g m w' → wpList Tryd.prog ops Q rest (a.put o.dst undef) w') : wpList Tryd.prog ops Q (o :: rest) a w :=
  wpList_store_cl ty hgd x y ho g hx m hy l hc hl hi (h _ ⟨hc.setRow, fun hne k => k.apart hne _, fun hk hg => bkp_setRow hk hg _, by simp [World.setRow]⟩)
/-- Three numbers are written. -/
theorem wpList_store_r3 (hgd : o.guard = Option.none) (x y : Operand) (ho : o.op = .store 48 x y) (g : Nat) (hx : a.eval x = .pointer (some ⟨g, 0, none⟩)) (x0 x1 x2 : Int) (hy : a.eval y = .agg (ints [x0, x1, x2]).toArray)
    (l : List Int) (hc : Cl 48 w g l) (hl : l.length = 3)
    (h : ∀ w', Aft 48 w g [x0, x1, x2] w' → w'.cell? ⟨g, 0, none⟩ = some (.int .i64 x0) → w'.cell? ⟨g, 1, none⟩ = some (.int .i64 x1) → w'.cell? ⟨g, 2, none⟩ = some (.int .i64 x2) → wpList Tryd.prog ops Q rest (a.put o.dst undef) w') : wpList Tryd.prog ops Q (o :: rest) a w :=
  wpList_store_aft 48 hgd x y ho g hx [x0, x1, x2] hy l hc hl info_row fun w' hw => h w' hw (hw.own.cell 0 (by decide : 0 < 3)) (hw.own.cell 1 (by decide : 1 < 3)) (hw.own.cell 2 (by decide : 2 < 3))
/-- Three numbers are read. -/
theorem wpList_load_r3 (hgd : o.guard = Option.none) (x : Operand) (ho : o.op = .load 48 x) (g : Nat) (hx : a.eval x = .pointer (some ⟨g, 0, none⟩)) (x0 x1 x2 : Int) (hc : Cl 48 w g [x0, x1, x2])
    (h : wpList Tryd.prog ops Q rest (a.put o.dst (.agg (ints [x0, x1, x2]).toArray)) w) : wpList Tryd.prog ops Q (o :: rest) a w :=
  wpList_load_cl 48 3 3 Tryd.underlying48 hgd x ho g hx [x0, x1, x2] hc info_row h
/-- A row of three out of ten. -/
theorem flat3_range {ty : TypeId} {g i : Nat} {h : Nat → Nat → Fp.F} (hc : Cl ty w g (flat3 h)) (hi : i < 10) : w.rangeAt g (i * 3) (ints [((h i 0).val : Int), ((h i 1).val : Int), ((h i 2).val : Int)]) := fun j v hv => by
  have hj : j < 3 := (List.getElem?_eq_some_iff.1 hv).1
  rw [hc.cell (i * 3 + j) (by rw [len_flat3]; omega), flat3_at _ hi hj, ← hv]
  rcases (show j = 0 ∨ j = 1 ∨ j = 2 by omega) with rfl | rfl | rfl <;> rfl
theorem wpList_load_of (hgd : o.guard = Option.none) (x : Operand) (ho : o.op = .load 48 x) (g i : Nat) (hx : a.eval x = .pointer (some ⟨g, i * 3, none⟩)) (ty : TypeId) (H : Nat → Nat → Fp.F) (hc : Cl ty w g (flat3 H)) (hi : i < 10)
    (h : wpList Tryd.prog ops Q rest (a.put o.dst (.agg (ints [((H i 0).val : Int), ((H i 1).val : Int), ((H i 2).val : Int)]).toArray)) w) : wpList Tryd.prog ops Q (o :: rest) a w :=
  wpList_load_mid hgd 48 x ho g (i * 3) hx _ _ (flat3_range hc hi) Tryd.underlying48 rfl info_row h
end

theorem band_mod (m d p s : Fp.F) : ((m.val : Int) * (d.val : Int) + (9973 - (p.val : Int)) * (s.val : Int)).tmod 9973 = ((m * d - p * s).val : Int) := by
  have h1 := times_bound m d
  have h2 := less_bound p s
  rw [Int.tmod_eq_emod_of_nonneg (by omega), ← Fp.ofInt_val, Fp.ofInt_add, Fp.ofInt_mul, Fp.ofInt_mul, Fp.ofInt_self, Fp.ofInt_self, Fp.ofInt_self]
  have h : Fp.ofInt (9973 - (p.val : Int)) = -p := by
    have h2 := Fp.ofInt_add (9973 - (p.val : Int)) (p.val : Int)
    rw [Fp.ofInt_self, show (9973 - (p.val : Int)) + (p.val : Int) = 9973 by omega, show Fp.ofInt 9973 = 0 from rfl] at h2
    grind
  rw [h]
  have : m * d + -p * s = m * d - p * s := by grind
  rw [this]

/-- The determinant of one row less, 0 where there is none. -/
def sh (m c : Nat → Fp.F) (k : Nat) : Fp.F := if k = 0 then 0 else Mx.ko (k - 1) m c
/-- What stands above the middle in the row before, 0 where there is none. -/
def lb (h : Nat → Nat → Fp.F) (k : Nat) : Fp.F := if k = 0 then 0 else h (k - 1) 2
theorem ko_more (m a b : Nat → Fp.F) (q k : Nat) (hk : k < q + 1) :
    ce m a b (q + 1) q q k 1 * Mx.ko k m (fun i => a i * b i) - lb (ce m a b (q + 1) q q) k * ce m a b (q + 1) q q k 0 * sh m (fun i => a i * b i) k = Mx.ko (k + 1) m (fun i => a i * b i) := by
  have e1 : ce m a b (q + 1) q q k 1 = m k := by unfold ce; rw [if_pos rfl, if_pos hk]
  rw [e1]
  rcases k with _ | k
  · unfold lb; rw [if_pos rfl]
    simp only [Mx.ko]; grind
  · have e2 : lb (ce m a b (q + 1) q q) (k + 1) = a k := by
      unfold lb ce; rw [if_neg (by omega), if_neg (by omega), if_pos rfl, show k + 1 - 1 = k from rfl, if_pos (by omega)]
    have e3 : ce m a b (q + 1) q q (k + 1) 0 = b k := by
      unfold ce; rw [if_neg (by omega), if_neg (by omega), if_pos (by omega)]; rfl
    rw [e2, e3, Mx.ko_next]
    unfold sh; rw [if_neg (by omega), show k + 1 - 1 = k from rfl]

theorem BDet_bad (A B C : Option Addr) (L M N : List Int) (n q p c d f : Nat) (w : World) (ha : Lies w A L) (hb : Lies w B M) (hc : Lies w C N) (hn : L.length = n) (hq : M.length = q) (hp : N.length = p) (h : bcode L M N ≠ 0) :
    Calls Tryd.prog 9 #[.slice A n c, .slice B q d, .slice C p f] w fun e w' => e = .returned (.tuple #[.int .i64 0, errOf (bcode L M N)]) ∧ w = w' := by
  subst hn hq hp
  have CK := Lib.hid (bChk_any A B C L M N c d f w ha hb hc)
  rw [errOf_ne _ h] at CK ⊢
  generalize bcode L M N = z at *
  generalize L.length = n at *
  generalize M.length = q at *
  generalize N.length = p at *
  clear ha hb hc h
  go_enter Tryd.func9, Tryd.ntmps9
  go_wp2_with fail
  refine (CK.out).mono ?_; rintro e w' ⟨rfl, rfl⟩
  go_wp2_with fail
  go_ret2
  exact ⟨rfl, rfl⟩

set_option maxRecDepth 100000 in
set_option maxHeartbeats 6400000 in
theorem BDet_ok (A B C : Option Addr) (q c d f : Nat) (m a b : Nat → Fp.F) (w : World) (ha : Lies w A (rowF (q + 1) m)) (hb : Lies w B (rowF q a)) (hc : Lies w C (rowF q b)) (hq : q ≤ 9) :
    Calls Tryd.prog 9 #[.slice A (q + 1) c, .slice B q d, .slice C q f] w fun e w' => e = .returned (.tuple #[.int .i64 ((Mx.ko (q + 1) m (fun i => a i * b i)).val : Int), .nilIface]) ∧ Kp w w' := by
  have CK := Lib.hid (show Calls Tryd.prog 6 #[.slice A (q + 1) c, .slice B q d, .slice C q f] w fun e w' => e = .returned .nilIface ∧ w = w' by
    have := bChk_any A B C _ _ _ c d f w ha hb hc
    rw [(Bd.mk rfl rfl rfl hq : Bd q m a b _ _ _).code, errOf_zero] at this
    simpa only [Mx.len_row] using this)
  have RO := Lib.hid (rowsOf_any A B C q c d f m a b w ha hb hc hq)
  clear ha hb hc
  obtain ⟨H, hH⟩ : ∃ H, H = ce m a b (q + 1) q q := ⟨_, rfl⟩
  have ST := Lib.hid (show ∀ k, k < q + 1 → H k 1 * Mx.ko k m (fun i => a i * b i) - lb H k * H k 0 * sh m (fun i => a i * b i) k = Mx.ko (k + 1) m (fun i => a i * b i) from fun k hk => by rw [hH]; exact ko_more m a b q k hk)
  rw [← hH] at RO
  clear hH
  generalize (fun i => a i * b i) = cc at *
  obtain ⟨n, hn⟩ : ∃ n, n = q + 1 := ⟨_, rfl⟩
  rw [← hn] at CK RO ST ⊢
  have hn10 : n ≤ 10 := by omega
  have hn10i : (n : Int) ≤ 10 := by omega
  clear hn
  go_enter Tryd.func9, Tryd.ntmps9
  go_wp2_with fail
  refine (CK.out).mono ?_; rintro e w' ⟨rfl, rfl⟩
  go_wp2_with fail
  refine (RO.out).mono ?_; rintro e w1 ⟨rfl, hk1⟩
  go_wp2_with (refine wpList_store_aft 49 rfl _ _ rfl _ rfl (flat3 H) rfl (List.replicate 30 0) (Cl.made w1 (List.replicate 30 0)) (by rw [len_flat3]; rfl) (by rw [len_flat3]; exact info_rows) ?_; intro w2 hw2)
  have G1 := Lib.hid (show Cl 49 (w2.alloc (.cells (ints [0, 0, 0]).toArray 48)) w1.heap.size (flat3 H) from hw2.own.new _)
  have G2 := Lib.hid (show Cl 48 (w2.alloc (.cells (ints [0, 0, 0]).toArray 48)) w2.heap.size [0, 0, 0] from Cl.made _ _)
  have G3 := Lib.hid (show Kp w (w2.alloc (.cells (ints [0, 0, 0]).toArray 48)) from (hw2.kp (hk1.new _) (hk1.size)).new _)
  have hne : w1.heap.size < w2.heap.size := by have := hw2.size; simp at this; omega
  have hwz := hk1.size
  clear hw2 hk1
  obtain ⟨g1, hg1⟩ : ∃ x, x = w1.heap.size := ⟨_, rfl⟩
  obtain ⟨g2, hg2⟩ : ∃ x, x = w2.heap.size := ⟨_, rfl⟩
  rw [← hg1] at G1 hne hwz ⊢
  rw [← hg2] at G2 hne ⊢
  clear hg1 hg2
  go_loopw [10, 11, 31] (fun D S i wr => ∃ k : Nat, k ≤ n ∧ i = .int .i64 (k : Int) ∧ D = .int .i64 ((Mx.ko k m cc).val : Int) ∧ S = .int .i64 ((sh m cc k).val : Int) ∧ Cl 49 wr g1 (flat3 H) ∧ (∃ y0 y1 : Int, Cl 48 wr g2 [y0, y1, ((lb H k).val : Int)]) ∧ Kp w wr) (fun _ _ i _ => n - (intOf i).toNat)
  case atStart => exact ⟨0, Nat.zero_le _, rfl, rfl, rfl, G1.out, ⟨0, 0, G2.out⟩, G3.out⟩
  case round =>
    obtain ⟨k, hk, rfl, rfl, rfl, h1, ⟨y0, y1, h2⟩, h3⟩ := hrel
    clear G1 G2 G3
    by_cases hlt : k < n
    · have st := ST.out k hlt
      have HR := Lib.hid (flat3_range h1 (i := k) (by omega))
      have hpm := times_mod (lb H k) (H k 0)
      have hdm := band_mod (H k 1) (Mx.ko k m cc) (lb H k * H k 0) (sh m cc k)
      rw [st] at hdm
      have b1 := times_bound (lb H k) (H k 0)
      have b2 := times_bound (H k 1) (Mx.ko k m cc)
      have b3 := less_bound (lb H k * H k 0) (sh m cc k)
      have b4 := gval (lb H k * H k 0)
      have es : sh m cc (k + 1) = Mx.ko k m cc := by unfold sh; rw [if_neg (by omega)]; rfl
      have el : lb H (k + 1) = H k 2 := by unfold lb; rw [if_neg (by omega)]; rfl
      have ES := Lib.hid es
      have EL := Lib.hid el
      have H1 := Lib.hid h1
      have H2 := Lib.hid h2
      have H3 := Lib.hid h3
      obtain ⟨dv, hdv⟩ : ∃ x, x = ((Mx.ko (k + 1) m cc).val : Int) := ⟨_, rfl⟩
      obtain ⟨d0, hd0⟩ : ∃ x, x = ((Mx.ko k m cc).val : Int) := ⟨_, rfl⟩
      obtain ⟨z2, hz2⟩ : ∃ x, x = ((H k 2).val : Int) := ⟨_, rfl⟩
      have HDV := Lib.hid hdv
      have HD0 := Lib.hid hd0
      have HZ2 := Lib.hid hz2
      rw [← hdv] at hdm
      rw [← hd0] at hdm b2 ⊢
      rw [← hz2] at HR
      clear h1 h2 h3 st es el hdv hd0 hz2
      generalize ((lb H k * H k 0).val : Int) = pv at *
      generalize ((sh m cc k).val : Int) = sv at *
      generalize ((lb H k).val : Int) = lv at *
      generalize ((H k 0).val : Int) = z0 at *
      generalize ((H k 1).val : Int) = z1 at *
      have hw1 : IntKind.i64.wrap (lv * z0) = lv * z0 := IntWalk.i64_in _ (by omega)
      have hw2 : IntKind.i64.wrap (z1 * d0) = z1 * d0 := IntWalk.i64_in _ (by omega)
      have hw3 : IntKind.i64.wrap (9973 - pv) = 9973 - pv := IntWalk.i64_in _ (by omega)
      have hw4 : IntKind.i64.wrap ((9973 - pv) * sv) = (9973 - pv) * sv := IntWalk.i64_in _ (by omega)
      have hw5 : IntKind.i64.wrap (z1 * d0 + (9973 - pv) * sv) = z1 * d0 + (9973 - pv) * sv := IntWalk.i64_in _ (by omega)
      clear b1 b2 b3 b4
      obtain ⟨w5, hw5'⟩ : ∃ x, x = wr := ⟨_, rfl⟩
      subst hw5'
      go_wp2_with (first
        | refine wpList_load_mid rfl 48 _ rfl g1 (k * 3) rfl _ _ HR.out Tryd.underlying48 rfl info_row ?_
        | (refine wpList_store_r3 rfl _ _ rfl w5.heap.size rfl z0 z1 z2 rfl [0, 0, 0] (Cl.made w5 [0, 0, 0]) rfl ?_; intro w6 hw6 c0 c1 c2; have HW6 := Lib.hid hw6; have H7 := Lib.hid (hw6.far (Nat.ne_of_lt H2.out.lt) (H2.out.new _)); have c4 := H7.out.cell 2 (by decide : 2 < 3); clear hw6)
        | (refine wpList_store_r3 rfl _ _ rfl g2 rfl z0 z1 z2 rfl [y0, y1, lv] H7.out rfl ?_; intro w7 hw7 d0' d1' d2'; have HW7 := Lib.hid hw7; clear hw7 d0' d1' d2'))
      go_roundw
      case rel =>
        have k1 := H1.out.lt
        have k2 := H2.out.lt
        have k3 := H3.out.size
        refine ⟨k + 1, by omega, by go_num, by rw [HDV.out], by rw [HD0.out, ES.out], HW7.out.far (Nat.ne_of_lt hne) (HW6.out.far (Nat.ne_of_lt k1) (H1.out.new _)), ⟨z0, z1, ?_⟩, HW7.out.kp (HW6.out.kp (H3.out.new _) k3) (by omega)⟩
        rw [EL.out, ← HZ2.out]
        exact HW7.out.own
      case measure => simp [intOf]; omega
    · obtain rfl : k = n := by omega
      have H3 := Lib.hid h3
      clear h1 h2 h3
      go_wp2_with fail
      go_ret2
      exact ⟨rfl, H3.out⟩

end Go.Proofs.YtbmkkcpdlakgbaaDoor
