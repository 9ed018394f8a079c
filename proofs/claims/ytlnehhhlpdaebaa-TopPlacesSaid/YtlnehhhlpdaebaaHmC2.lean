/- Contracts of package hermite, second part: a row turned about, and the step that takes a multiple of one row from another one. -/
import Derived.Test.YtlnehhhlpdaebaaHmM
import Derived.Test.YtlnehhhlpdaebaaOwnH
import Derived.StillTailTactics
namespace Go.Proofs.Ytlnehhhlpdaebaa
open Go.ChangeShapes Go.WideShapes Go.ChangeAt Go.RowKit
set_option linter.unusedVariables false

/-- Nothing but one block has turned. -/
abbrev But (z : Nat) (w w' : World) : Prop := Only (fun _ => z) 1 w w'
theorem Only.cell {G : Nat → Nat} {r : Nat} {w w' : World} (h : Only G r w w') {p : Addr} {v : Value} (hc : w.cell? p = some v) (hn : ∀ i, i < r → p.block ≠ G i) : w'.cell? p = some v :=
  (World.cell?_of_block (w := w) (h.block p.block (cell_lt hc) hn)).trans hc
theorem But.put {z : Nat} {a b : World} (h : But z a b) (j : Nat) (u : Value) : But z a (b.setCell ⟨z, j, none⟩ u) := Only.put (G := fun _ => z) (i := 0) h (Nat.zero_lt_one) j u
theorem But.wide {z : Nat} {a b : World} (h : But z a b) {G : Nat → Nat} {r i : Nat} (hi : i < r) (e : G i = z) : Only G r a b :=
  ⟨h.os, h.tape, h.output, h.size, fun k hk hn => h.block k hk fun _ _ => by rw [← e]; exact hn i hi⟩
theorem OwnM.turned1 {w w' : World} {B g n cap : Nat} {G C : Nat → Nat} {r c : Nat} {f : Nat → Nat → Int} (h : OwnM w B (.slice (some ⟨g, 0, none⟩) n cap) G C (Mx.tab r c f)) {a : Nat} (ha : a < r) {y : Nat → Int}
    (ho : But (G a) w w') (hy : Own w' B (.slice (some ⟨G a, 0, none⟩) c (C a)) (Mx.row c y)) : OwnM w' B (.slice (some ⟨g, 0, none⟩) n cap) G C (Mx.tab r c (Zx.setr a y f)) := by
  have hw := h.weak
  have ap : ∀ i j, i < r → j < r → i ≠ j → G i ≠ G j := fun i j hi hj => h.apart i j (by rw [Mx.len_tab]; exact hi) (by rw [Mx.len_tab]; exact hj)
  refine OwnH.strong ⟨?_, fun i hi => ?_⟩ ap
  · have ht := hw.top
    rcases ht.2 with ⟨h1, h2⟩ | ⟨g', cap', cur, e, hg, hh, rr⟩
    · exact ⟨ht.1, .inl ⟨h1, h2⟩⟩
    · refine ⟨ht.1, .inr ⟨g', cap', cur, e, hg, ?_, rr⟩⟩
      cases e
      rw [ho.block g ?_ fun _ _ => (hw.apartTop ha).symm]; exact hh
      exact hw.topLe.2
  · by_cases e : i = a
    · rw [e, Zx.setr_at]; exact hy
    · rw [Zx.setr_ne e]
      exact (hw.row i hi).only ho fun b hb _ _ => by
        have := Option.some.inj hb
        rw [← this]; exact fun e' => ap i a hi ha e e'.symm

theorem tmod_floor {a b : Int} (hb : 0 < b) : (a.tmod b < 0 → a.tmod b + b = a % b) ∧ (¬ a.tmod b < 0 → a.tmod b = a % b) := by
  have h1 := Int.mul_tdiv_add_tmod a b
  have h2 := Int.tmod_lt_of_pos a hb
  have h3 : -b < a.tmod b := by
    have e := Int.natAbs_tmod a b
    have l := Nat.mod_lt a.natAbs (show 0 < b.natAbs by omega)
    omega
  constructor
  · intro h
    have e : a = a.tmod b + b + b * (a.tdiv b - 1) := by grind
    rw [show a % b = (a.tmod b + b + b * (a.tdiv b - 1)) % b by rw [← e], Int.add_mul_emod_self_left, Int.emod_eq_of_lt (by omega) (by omega)]
  · intro h
    have e : a = a.tmod b + b * (a.tdiv b) := by grind
    rw [show a % b = (a.tmod b + b * (a.tdiv b)) % b by rw [← e], Int.add_mul_emod_self_left, Int.emod_eq_of_lt (by omega) (by omega)]
theorem tdiv_floor {a b : Int} (hb : 0 < b) : (a - a % b).tdiv b = a / b := by
  have h1 := Int.mul_ediv_add_emod a b
  rw [show a - a % b = b * (a / b) by omega, Int.mul_tdiv_cancel_left _ (by omega)]

set_option maxRecDepth 100000 in
set_option maxHeartbeats 800000 in
theorem neg_any (z cz n B : Nat) (y : Nat → Int) (w : World) (ho : Own w B (.slice (some ⟨z, 0, none⟩) n cz) (Mx.row n y)) (hn : n ≤ 1000) (hy : ∀ j, j < n → -1000000000000000 ≤ y j ∧ y j ≤ 1000000000000000) :
    Calls Try.prog 54 #[.slice (some ⟨z, 0, none⟩) n cz] w fun e w' =>
      e = .returned (.tuple #[]) ∧ Own w' B (.slice (some ⟨z, 0, none⟩) n cz) (Mx.row n fun j => -(y j)) ∧ But z w w' := by
  have HO := Lib.hid ho
  have HY := Lib.hid hy
  clear ho hy
  go_enter Try.func54, Try.ntmps54
  go_wp2_with fail
  go_loopw [5] (fun i wr => ∃ k : Nat, k ≤ n ∧ i = .int .i64 (k : Int) ∧ Own wr B (.slice (some ⟨z, 0, none⟩) n cz) (Mx.row n fun j => if j < k then -(y j) else y j) ∧ But z w wr) (fun i _ => n - (intOf i).toNat)
  case atStart => exact ⟨0, Nat.zero_le _, rfl, by
    rw [show (Mx.row n fun j => if j < 0 then -(y j) else y j) = Mx.row n y from Mx.row_ext fun j _ => by rw [if_neg (by omega)]]
    exact HO.out, Only.refl _ _ _⟩
  case round =>
    obtain ⟨k, hk, rfl, ho, hon⟩ := hrel
    by_cases hlt : k < n
    · have x6 := own_cell ho k (by rw [Mx.len_row]; exact hlt)
      have x7 := own_free ho k
      rw [Mx.row_at _ _ _ hlt, if_neg (by omega)] at x6
      have hyk := HY.out k hlt
      obtain ⟨yk, hyk'⟩ : ∃ v, v = y k := ⟨_, rfl⟩
      rw [← hyk'] at x6 hyk
      have hw : IntKind.i64.wrap (-yk) = -yk := IntWalk.i64_in _ (by omega)
      have HQ := Lib.hid hyk'
      have HO2 := Lib.hid ho
      have HK2 := Lib.hid hon
      clear ho hon hyk' hyk
      go_wp2_with fail
      go_roundw
      case rel =>
        refine ⟨k + 1, by omega, by go_num, ?_, HK2.out.put k _⟩
        have := own_put HO2.out k (-yk)
        rw [Mx.row_set] at this
        rw [show (Mx.row n fun j => if j < k + 1 then -(y j) else y j) = Mx.row n fun j => if j = k then -yk else if j < k then -(y j) else y j from Mx.row_ext fun j _ => by
          by_cases e : j = k
          · rw [if_pos e, if_pos (by omega), e, HQ.out]
          · rw [if_neg e]
            by_cases e2 : j < k
            · rw [if_pos e2, if_pos (by omega)]
            · rw [if_neg e2, if_neg (by omega)]]
        exact this
      case measure => simp [intOf]; omega
    · obtain rfl : k = n := by omega
      have HO2 := Lib.hid (show Own wr B (.slice (some ⟨z, 0, none⟩) k cz) (Mx.row k fun j => -(y j)) by
        rw [show (Mx.row k fun j => -(y j)) = Mx.row k fun j => if j < k then -(y j) else y j from Mx.row_ext fun j hj => by rw [if_pos hj]]
        exact ho)
      have HK2 := Lib.hid hon
      clear ho hon
      go_wp2_with fail
      go_end0
      exact ⟨rfl, HO2.out, HK2.out⟩

set_option maxRecDepth 100000 in
/-- The step that a row makes: what it holds. -/
theorem reduc_any (A : Option Addr) (n c k : Nat) (w : World) :
    Calls Try.prog 38 #[.slice A n c, .int .i64 (k : Int)] w fun e w' =>
      ∃ P R, e = .returned (.func (.func 50) #[] #[.pointer (some ⟨P, 0, none⟩), .pointer (some ⟨R, 0, none⟩)]) ∧
        (w.heap.size ≤ P ∧ w.heap.size ≤ R) ∧ w'.cell? ⟨P, 0, none⟩ = some (.int .i64 (k : Int)) ∧ w'.cell? ⟨R, 0, none⟩ = some (.slice A n c) ∧ Kp w w' := by
  go_enter Try.func38, Try.ntmps38
  go_wp2_with fail
  go_ret
  have s1 : (w.alloc (.cells #[.slice A n c] 39)).heap.size = w.heap.size + 1 := by simp
  refine ⟨w.heap.size + 1, w.heap.size, rfl, ⟨by omega, by omega⟩, ?_, ?_, ((Kp.rfl' w).new _).new _⟩
  · exact cell_made _ _ _ _ 0 s1.symm
  · have k3 : Kp (w.alloc (.cells #[.slice A n c] 39)) _ := (Kp.rfl' _).new (.cells #[.int .i64 (k : Int)] 3)
    exact (k3.cell (p := ⟨w.heap.size, 0, none⟩) (by rw [s1]; show w.heap.size < _; omega)).trans (cell_made _ _ _ _ 0 rfl)

/-- What the step's boxes and the row that it stands over hold. -/
structure RedAt (w : World) (P R Z n c k : Nat) (b : Nat → Int) : Prop where
  at' : w.cell? ⟨P, 0, none⟩ = some (.int .i64 (k : Int))
  row : w.cell? ⟨R, 0, none⟩ = some (.slice (some ⟨Z, 0, none⟩) n c)
  el : ∀ j, j < n → w.cell? ⟨Z, j, none⟩ = some (.int .i64 (b j))
theorem RedAt.but {w w' : World} {P R Z n c k z : Nat} {b : Nat → Int} (h : RedAt w P R Z n c k b) (ho : But z w w') (hP : P ≠ z) (hR : R ≠ z) (hZ : Z ≠ z) : RedAt w' P R Z n c k b :=
  ⟨ho.cell h.at' fun _ _ => hP, ho.cell h.row fun _ _ => hR, fun j hj => ho.cell (h.el j hj) fun _ _ => hZ⟩

set_option maxRecDepth 100000 in
set_option maxHeartbeats 1600000 in
theorem red_any (P R Z n c k z cz B : Nat) (b y : Nat → Int) (w : World) (hs : RedAt w P R Z n c k b) (ho : Own w B (.slice (some ⟨z, 0, none⟩) n cz) (Mx.row n y))
    (hP : P ≠ z) (hR : R ≠ z) (hZ : Z ≠ z) (hk : k < n) (hn : n ≤ 1000) (h0 : 0 < b k) (hbk : b k ≤ 1000000000000000)
    (hy : ∀ j, j < n → (-1000000000000000 ≤ y j ∧ y j ≤ 1000000000000000) ∧ -4000000000000000000 ≤ y k / b k * b j ∧ y k / b k * b j ≤ 4000000000000000000) :
    Calls Try.prog 50 #[.slice (some ⟨z, 0, none⟩) n cz, .pointer (some ⟨P, 0, none⟩), .pointer (some ⟨R, 0, none⟩)] w fun e w' =>
      e = .returned (.tuple #[]) ∧ Own w' B (.slice (some ⟨z, 0, none⟩) n cz) (Mx.row n (Zx.rdc k b y)) ∧ But z w w' := by
  have HO := Lib.hid ho
  have HS := Lib.hid hs
  have HY := Lib.hid hy
  have KEEP := Lib.hid (fun (w' : World) (h : But z w w') => hs.but h hP hR hZ)
  have x1 := hs.at'
  have x2 := hs.row
  have x3 := hs.el k hk
  have x4 := own_cell ho k (by rw [Mx.len_row]; exact hk)
  rw [Mx.row_at _ _ _ hk] at x4
  have hyk := (hy k hk).1
  have tf := tmod_floor (a := y k) h0
  have df := tdiv_floor (a := y k) h0
  have em1 := Int.emod_nonneg (y k) (Int.ne_of_gt h0)
  have em2 := Int.emod_lt_of_pos (y k) h0
  obtain ⟨q, hq⟩ : ∃ q, q = y k / b k := ⟨_, rfl⟩
  have hqb : q.natAbs ≤ (y k).natAbs := by
    have := Zx.floor_ab (a := y k) h0
    unfold Zx.ab at this
    rw [hq]; omega
  rw [← hq] at df
  obtain ⟨yk, hyk'⟩ : ∃ v, v = y k := ⟨_, rfl⟩
  obtain ⟨bk, hbk'⟩ : ∃ v, v = b k := ⟨_, rfl⟩
  rw [← hyk'] at x4 hyk tf df em1 em2 hqb
  rw [← hbk'] at x3 tf df h0 hbk em1 em2
  have HQ := Lib.hid hq
  have e0 : (bk == 0) = false := by rw [beq_eq_false_iff_ne]; omega
  obtain ⟨rr, hrr⟩ : ∃ rr, rr = yk % bk := ⟨_, rfl⟩
  rw [← hrr] at tf df em1 em2
  obtain ⟨t, ht⟩ : ∃ t, t = yk.tmod bk := ⟨_, rfl⟩
  have htr : IntKind.i64.wrap (yk.tmod bk) = t := by
    rw [ht]; refine IntWalk.i64_in _ ?_
    have := Int.natAbs_tmod yk bk
    rcases Int.lt_or_le (yk.tmod bk) 0 with h | h
    · have := tf.1 (by rw [ht] at *; exact h); omega
    · have := tf.2 (by omega); omega
  have ht2 : yk.tmod bk = t := ht.symm
  rw [ht2] at tf
  have hws : IntKind.i64.wrap (yk - rr) = yk - rr := IntWalk.i64_in _ (by omega)
  have hwd : IntKind.i64.wrap q = q := IntWalk.i64_in _ (by omega)
  have hP0 := hP
  have HT := Lib.hid tf
  clear ho hs hy hP hR hZ hyk' hbk' hq hrr ht
  go_enter Try.func50, Try.ntmps50
  go_wp2_with fail
  go_quiet (fail)
  by_cases ht0 : t < 0
  · have et : t + bk = rr := HT.out.1 ht0
    have hwa : IntKind.i64.wrap (t + bk) = rr := by rw [et]; exact IntWalk.i64_in _ (by omega)
    have hd0 : decide (t < 0) = true := decide_eq_true ht0
    clear et
    go_wp2_with fail
    go_quiet (fail)
    go_wp2_with fail
    go_loopw [38] (fun i wr => ∃ j : Nat, j ≤ n ∧ i = .int .i64 (j : Int) ∧ Own wr B (.slice (some ⟨z, 0, none⟩) n cz) (Mx.row n fun t => if t < j then Zx.rdc k b y t else y t) ∧ But z w wr) (fun i _ => n - (intOf i).toNat)
    case atStart => exact ⟨0, Nat.zero_le _, rfl, by
      rw [show (Mx.row n fun j => if j < 0 then Zx.rdc k b y j else y j) = Mx.row n y from Mx.row_ext fun j _ => by rw [if_neg (by omega)]]
      exact HO.out, (Only.refl _ _ w).drewN _⟩
    case round =>
      clear x1 x2 x3 x4
      obtain ⟨j, hj, rfl, ho, hon⟩ := hrel
      by_cases hlt : j < n
      · have hd := KEEP.out wr hon
        have x2 := hd.row
        have x5 := hd.el j hlt
        have x6 := own_cell ho j (by rw [Mx.len_row]; exact hlt)
        have x7 := own_free ho j
        rw [Mx.row_at _ _ _ hlt, if_neg (by omega)] at x6
        have hyj := HY.out j hlt
        rw [← HQ.out] at hyj
        have HJ := Lib.hid (show Zx.rdc k b y j = y j - q * b j by unfold Zx.rdc; rw [← HQ.out])
        have HO2 := Lib.hid ho
        have HK2 := Lib.hid hon
        obtain ⟨yj, hyj'⟩ : ∃ v, v = y j := ⟨_, rfl⟩
        obtain ⟨bj, hbj'⟩ : ∃ v, v = b j := ⟨_, rfl⟩
        rw [← hyj'] at x6 hyj HJ
        rw [← hbj'] at x5 hyj HJ
        have hw1 : IntKind.i64.wrap (q * bj) = q * bj := IntWalk.i64_in _ (by omega)
        have hw2 : IntKind.i64.wrap (yj - q * bj) = yj - q * bj := IntWalk.i64_in _ (by omega)
        clear ho hon hyj' hbj' hyj hd
        go_wp2_with fail
        go_roundw
        case rel =>
          refine ⟨j + 1, by omega, by go_num, ?_, HK2.out.put j _⟩
          have := own_put HO2.out j (yj - q * bj)
          rw [Mx.row_set] at this
          rw [show (Mx.row n fun t => if t < j + 1 then Zx.rdc k b y t else y t) = Mx.row n fun t => if t = j then yj - q * bj else if t < j then Zx.rdc k b y t else y t from Mx.row_ext fun t _ => by
            by_cases e : t = j
            · rw [if_pos e, if_pos (by omega), e, HJ.out]
            · rw [if_neg e]
              by_cases e2 : t < j
              · rw [if_pos e2, if_pos (by omega)]
              · rw [if_neg e2, if_neg (by omega)]]
          exact this
        case measure => simp [intOf]; omega
      · obtain rfl : j = n := by omega
        have HO2 := Lib.hid (show Own wr B (.slice (some ⟨z, 0, none⟩) j cz) (Mx.row j (Zx.rdc k b y)) by
          rw [show Mx.row j (Zx.rdc k b y) = Mx.row j fun t => if t < j then Zx.rdc k b y t else y t from Mx.row_ext fun t ht => by rw [if_pos ht]]
          exact ho)
        have HK2 := Lib.hid hon
        clear ho hon
        go_wp2_with fail
        go_end0
        exact ⟨rfl, HO2.out, HK2.out⟩
  · have et : t = rr := HT.out.2 (by omega)
    have hd0 : decide (t < 0) = false := decide_eq_false ht0
    subst et
    go_wp2_with fail
    go_quiet (fail)
    go_wp2_with fail
    go_loopw [38] (fun i wr => ∃ j : Nat, j ≤ n ∧ i = .int .i64 (j : Int) ∧ Own wr B (.slice (some ⟨z, 0, none⟩) n cz) (Mx.row n fun t => if t < j then Zx.rdc k b y t else y t) ∧ But z w wr) (fun i _ => n - (intOf i).toNat)
    case atStart => exact ⟨0, Nat.zero_le _, rfl, by
      rw [show (Mx.row n fun j => if j < 0 then Zx.rdc k b y j else y j) = Mx.row n y from Mx.row_ext fun j _ => by rw [if_neg (by omega)]]
      exact HO.out, (Only.refl _ _ w).drewN _⟩
    case round =>
      clear x1 x2 x3 x4
      obtain ⟨j, hj, rfl, ho, hon⟩ := hrel
      by_cases hlt : j < n
      · have hd := KEEP.out wr hon
        have x2 := hd.row
        have x5 := hd.el j hlt
        have x6 := own_cell ho j (by rw [Mx.len_row]; exact hlt)
        have x7 := own_free ho j
        rw [Mx.row_at _ _ _ hlt, if_neg (by omega)] at x6
        have hyj := HY.out j hlt
        rw [← HQ.out] at hyj
        have HJ := Lib.hid (show Zx.rdc k b y j = y j - q * b j by unfold Zx.rdc; rw [← HQ.out])
        have HO2 := Lib.hid ho
        have HK2 := Lib.hid hon
        obtain ⟨yj, hyj'⟩ : ∃ v, v = y j := ⟨_, rfl⟩
        obtain ⟨bj, hbj'⟩ : ∃ v, v = b j := ⟨_, rfl⟩
        rw [← hyj'] at x6 hyj HJ
        rw [← hbj'] at x5 hyj HJ
        have hw1 : IntKind.i64.wrap (q * bj) = q * bj := IntWalk.i64_in _ (by omega)
        have hw2 : IntKind.i64.wrap (yj - q * bj) = yj - q * bj := IntWalk.i64_in _ (by omega)
        clear ho hon hyj' hbj' hyj hd
        go_wp2_with fail
        go_roundw
        case rel =>
          refine ⟨j + 1, by omega, by go_num, ?_, HK2.out.put j _⟩
          have := own_put HO2.out j (yj - q * bj)
          rw [Mx.row_set] at this
          rw [show (Mx.row n fun t => if t < j + 1 then Zx.rdc k b y t else y t) = Mx.row n fun t => if t = j then yj - q * bj else if t < j then Zx.rdc k b y t else y t from Mx.row_ext fun t _ => by
            by_cases e : t = j
            · rw [if_pos e, if_pos (by omega), e, HJ.out]
            · rw [if_neg e]
              by_cases e2 : t < j
              · rw [if_pos e2, if_pos (by omega)]
              · rw [if_neg e2, if_neg (by omega)]]
          exact this
        case measure => simp [intOf]; omega
      · obtain rfl : j = n := by omega
        have HO2 := Lib.hid (show Own wr B (.slice (some ⟨z, 0, none⟩) j cz) (Mx.row j (Zx.rdc k b y)) by
          rw [show Mx.row j (Zx.rdc k b y) = Mx.row j fun t => if t < j then Zx.rdc k b y t else y t from Mx.row_ext fun t ht => by rw [if_pos ht]]
          exact ho)
        have HK2 := Lib.hid hon
        clear ho hon
        go_wp2_with fail
        go_end0
        exact ⟨rfl, HO2.out, HK2.out⟩
end Go.Proofs.Ytlnehhhlpdaebaa
