/- Contracts of package lu, third part: linesOf. -/
import Derived.Test.YtdkdpklohfdpmaaDoorLuC2
import Derived.Deep.OwnRows
namespace Go.Proofs.YtdkdpklohfdpmaaDoor
open Go.ChangeShapes Go.WideShapes Go.ChangeAt Go.RowKit
set_option linter.unusedVariables false

theorem line_info : (Tryd.prog.info? 43).map (fun i => (i.zero, i.size, i.bytes)) = some (some (.agg #[.int .i64 0, .slice none 0 0, .slice none 0 0]), 3, 56) := by kernel_rfl

theorem row_new (w : World) (n : Nat) : Row (w.alloc (.cells (madeCells #[.int .i64 0] n) 3)) w.heap.size (List.replicate n 0) := by
  unfold Row
  rw [heap_alloc_new]
  have e : madeCells #[Value.int .i64 0] n = (ints (List.replicate n 0)).toArray := by
    apply Array.toList_inj.1
    rw [toList_madeCells_one]; simp [ints]
  rw [e]
/-- The first k of n lines are made. -/
structure LinP (w : World) (B g n k : Nat) (L U D : Nat → Nat) (u : Nat → Nat → Int) : Prop where
  hB : B ≤ g
  top : Lns w g n fun i => if i < k then lnv n i (L i) n (U i) (D i) else (.int .i64 0, .slice none 0 0, .slice none 0 0)
  low : ∀ i, i < k → Own w B (.slice (some ⟨L i, 0, none⟩) n n) (Mx.row n fun _ => 0)
  up : ∀ i, i < k → Own w B (.slice (some ⟨U i, 0, none⟩) n (D i)) (Mx.row n (u i))
  la : ∀ i j, i < k → j < k → i ≠ j → L i ≠ L j
  ua : ∀ i j, i < k → j < k → i ≠ j → U i ≠ U j
  lu : ∀ i j, i < k → j < k → L i ≠ U j
theorem LinP.keep {w w' : World} {B g n k : Nat} {L U D : Nat → Nat} {u : Nat → Nat → Int} (h : LinP w B g n k L U D u) (hk : Kp w w') : LinP w' B g n k L U D u :=
  ⟨h.hB, h.top.keep hk, fun i hi => (h.low i hi).kp hk, fun i hi => (h.up i hi).kp hk, h.la, h.ua, h.lu⟩
theorem own_st3 {w : World} {B z d c g o : Nat} {l : List Int} (hx : Own w B (.slice (some ⟨z, 0, none⟩) d c) l) (hz : z ≠ g) (x y v : Value) : Own (st3 w g o x y v) B (.slice (some ⟨z, 0, none⟩) d c) l := by
  obtain ⟨h1, h2⟩ := hx
  refine ⟨h1, ?_⟩
  rcases h2 with h2 | ⟨g', cap, cur, hv, hg, hh, r⟩
  · exact .inl h2
  · refine .inr ⟨g', cap, cur, hv, hg, ?_, r⟩
    cases hv
    rw [st3_other _ _ _ _ _ _ hz]; exact hh
theorem LinP.lt {w : World} {B g n k : Nat} {L U D : Nat → Nat} {u : Nat → Nat → Int} (h : LinP w B g n k L U D u) {i : Nat} (hi : i < k) : L i < w.heap.size ∧ U i < w.heap.size :=
  ⟨(World.ownsRow.lt (h.low i hi) (L i) rfl).2, (World.ownsRow.lt (h.up i hi) (U i) rfl).2⟩
theorem LinP.step {w w' : World} {B g n k a b d o : Nat} {L U D : Nat → Nat} {u : Nat → Nat → Int} (h : LinP w B g n k L U D u) (hk : k < n) (ho : o = k * 3) (hw : Kp w w') (h1 : Own w' B (.slice (some ⟨a, 0, none⟩) n n) (Mx.row n fun _ => 0))
    (h2 : Own w' B (.slice (some ⟨b, 0, none⟩) n d) (Mx.row n (u k))) (ha : w.heap.size ≤ a) (hb : w.heap.size ≤ b) (hab : a ≠ b) :
    LinP (st3 w' g o (.int .i64 (k : Int)) (.slice (some ⟨a, 0, none⟩) n n) (.slice (some ⟨b, 0, none⟩) n d)) B g n (k + 1) (fun i => if i = k then a else L i) (fun i => if i = k then b else U i) (fun i => if i = k then d else D i) u := by
  subst ho
  have hh := h.keep hw
  have hg := h.top.lt
  refine ⟨h.hB, (hh.top.put hk _ _ _).ext fun i hi => ?_, fun i hi => ?_, fun i hi => ?_, fun i j hi hj hne => ?_, fun i j hi hj hne => ?_, fun i j hi hj => ?_⟩
  · by_cases e : i = k
    · subst e
      rw [if_pos rfl, if_pos (by omega)]
      unfold lnv; simp
    · rw [if_neg e]
      by_cases e2 : i < k
      · rw [if_pos e2, if_pos (by omega)]; unfold lnv; simp [e]
      · rw [if_neg e2, if_neg (by omega)]
  · by_cases e : i = k
    · simp only [if_pos e]; exact own_st3 h1 (by omega) _ _ _
    · simp only [if_neg e]
      have := h.lt (i := i) (by omega)
      exact own_st3 (hh.low i (by omega)) (lns_ne hh.top (hh.low i (by omega))) _ _ _
  · by_cases e : i = k
    · subst e; simp only [if_true]; exact own_st3 h2 (by omega) _ _ _
    · simp only [if_neg e]
      exact own_st3 (hh.up i (by omega)) (lns_ne hh.top (hh.up i (by omega))) _ _ _
  · by_cases e : i = k
    · have := (h.lt (i := j) (by omega)).1
      rw [if_pos e, if_neg (by omega)]; omega
    · have := (h.lt (i := i) (by omega)).1
      rw [if_neg e]
      by_cases e2 : j = k
      · rw [if_pos e2]; omega
      · rw [if_neg e2]; exact h.la i j (by omega) (by omega) hne
  · by_cases e : i = k
    · have := (h.lt (i := j) (by omega)).2
      rw [if_pos e, if_neg (by omega)]; omega
    · have := (h.lt (i := i) (by omega)).2
      rw [if_neg e]
      by_cases e2 : j = k
      · rw [if_pos e2]; omega
      · rw [if_neg e2]; exact h.ua i j (by omega) (by omega) hne
  · by_cases e : i = k
    · rw [if_pos e]
      by_cases e2 : j = k
      · rw [if_pos e2]; exact hab
      · have := (h.lt (i := j) (by omega)).2
        rw [if_neg e2]; omega
    · have := (h.lt (i := i) (by omega)).1
      rw [if_neg e]
      by_cases e2 : j = k
      · rw [if_pos e2]; omega
      · rw [if_neg e2]; exact h.lu i j (by omega) (by omega)
theorem LinP.done {w : World} {B g n : Nat} {L U D : Nat → Nat} {m : Nat → Nat → Fp.F} (h : LinP w B g n n L U D (fun i j => ((m i j).val : Int))) : LinT w B g n L (fun _ => n) U D (Mx.tri0 m) :=
  ⟨h.hB, h.top.ext fun i hi => by rw [if_pos hi]; rfl, h.low, h.up, h.la, h.ua, h.lu⟩

set_option maxRecDepth 100000 in
set_option maxHeartbeats 6400000 in
theorem lines_any (A : Option Addr) (f : Nat → Nat → Fp.F) (n d : Nat) (w : World) (ha : LiesM w A (Mx.matl n n f)) (hn : n ≤ 1000) (h0 : 0 < n) :
    Calls Tryd.prog 15 #[.slice A n d] w fun e w' =>
      ∃ (g : Nat) (L U D : Nat → Nat), e = .returned (.slice (some ⟨g, 0, none⟩) n n) ∧ LinT w' w.heap.size g n L (fun _ => n) U D (Mx.tri0 f) ∧ Kp w w' := by
  have HA := Lib.hid ha
  clear ha
  obtain ⟨j0, hj, hy0, hy1, hy2⟩ := info_parts line_info
  go_enter Tryd.func15, Tryd.ntmps15
  go_wp2_with (at_make; refine wpList_make_full _ rfl _ _ 39 rfl w.heap.size 43 j0 (.agg #[.int .i64 0, .slice none 0 0, .slice none 0 0]) 3 Tryd.underlying39 hj hy0 hy1 _ _ _ _ n rfl rfl rfl rfl (by rw [hy2]; omega) (by unfold maxLen; omega) (Nat.le_refl _) ?_; intro w1 hown hgrow)
  have hp1 : LinP w1 w.heap.size w.heap.size n 0 (fun _ => 0) (fun _ => 0) (fun _ => 0) (fun i j => ((f i j).val : Int)) :=
    ⟨Nat.le_refl _, (lns_made hown).ext fun i hi => by rw [if_neg (by omega)], fun i hi => absurd hi (by omega), fun i hi => absurd hi (by omega), fun i j hi => absurd hi (by omega), fun i j hi => absurd hi (by omega), fun i j hi => absurd hi (by omega)⟩
  have hk1 : Kp w w1 := (Kp.rfl' w).grown hgrow (by simp) (fun k hk => by cases hk)
  clear hown hgrow hj hy0 hy1 hy2
  obtain ⟨g, hg⟩ : ∃ g, g = w.heap.size := ⟨_, rfl⟩
  have hBg : w.heap.size ≤ g := by omega
  rw [← hg] at hp1 ⊢
  have HG := Lib.hid hg
  have HP1 := Lib.hid hp1
  have HK1 := Lib.hid hk1
  clear hg hp1 hk1 hBg
  go_loopw [11] (fun i wr => ∃ (k : Nat) (L U D : Nat → Nat), k ≤ n ∧ i = .int .i64 (k : Int) ∧ LinP wr g g n k L U D (fun i j => ((f i j).val : Int)) ∧ Kp w wr) (fun i _ => n - (intOf i).toNat)
  case atStart => exact ⟨0, _, _, _, Nat.zero_le _, rfl, HP1.out, HK1.out⟩
  case round =>
    obtain ⟨k, L, U, D, hk, rfl, hp, hkp⟩ := hrel
    obtain ⟨wo, hwo⟩ : ∃ x, x = wr := ⟨_, rfl⟩
    subst hwo
    have HP := Lib.hid hp
    have HK := Lib.hid hkp
    by_cases hlt : k < n
    · obtain ⟨ad, A1, d1, rfl, _, x1, _, l1⟩ := (HA.out.keep hkp).row hlt
      have L1 := Lib.hid l1
      clear l1 hp hkp HP1 HK1
      have kd : Kp wo wo.drew := (Kp.rfl' wo).drewN 1
      have kdm : Kp wo (wo.alloc (.cells (madeCells #[.int .i64 0] n) 3)).drew := ((Kp.rfl' wo).new _).drewN 1
      have FACT := Lib.hid (show ∀ w' : World, Kp wo w' → (∃ v, w'.cell? ⟨g, k * 3, none⟩ = some v) ∧ (∃ v, w'.cell? ⟨g, k * 3 + 1, none⟩ = some v) ∧ (∃ v, w'.cell? ⟨g, k * 3 + 2, none⟩ = some v) ∧ w'.frozen? ⟨g, k * 3, none⟩ = false ∧ w'.frozen? ⟨g, k * 3 + 1, none⟩ = false ∧ w'.frozen? ⟨g, k * 3 + 2, none⟩ = false from fun w' hk' => by
        have h := (HP.out.keep hk').top
        exact ⟨h.has (by omega), h.has (by omega), h.has (by omega), h.free _, h.free _, h.free _⟩)
      have CL := Lib.hid (fun (w' : World) (hk' : Kp wo w') => show Calls Tryd.prog 20 #[.slice A1 n d1] w' fun e w'' => ∃ z cz, e = .returned (.slice (some ⟨z, 0, none⟩) n cz) ∧ w'.heap.size ≤ z ∧ z < w''.heap.size ∧ Own w'' w'.heap.size (.slice (some ⟨z, 0, none⟩) n cz) (Mx.row n fun j => ((f k j).val : Int)) ∧ Kp w' w'' by
        have h := sclone_any A1 _ d1 w' (L1.out.keep hk') (by rw [Mx.len_row]; omega)
        rw [Mx.len_row] at h
        refine h.mono ?_
        rintro e w'' ⟨v, rfl, hv, hk2⟩
        obtain ⟨z, cz, rfl, hz, _⟩ := own_some hv (by rw [Mx.len_row]; exact h0)
        rw [Mx.len_row] at hv ⊢
        exact ⟨z, cz, rfl, hz, (World.ownsRow.lt hv z rfl).2, hv, hk2⟩)
      have hmk := run_make_row' (P := Tryd.prog) 24 3 (.int .i64 0) 8 Tryd.underlying24 int_info rfl .i64 .i64 n (by omega) (by omega)
      have hgl := HP.out.top.lt
      have hBg : w.heap.size ≤ g := by have := HG.out; omega
      have SA := Lib.hid (fun (wc : World) (z cz : Nat) (hz : (wo.alloc (.cells (madeCells #[.int .i64 0] n) 3)).drew.heap.size ≤ z) (hv : Own wc (wo.alloc (.cells (madeCells #[.int .i64 0] n) 3)).drew.heap.size (.slice (some ⟨z, 0, none⟩) n cz) (Mx.row n fun j => ((f k j).val : Int))) (hkc : Kp (wo.alloc (.cells (madeCells #[.int .i64 0] n) 3)).drew wc) =>
        show LinP (((wc.setCell ⟨g, k * 3, none⟩ (.int .i64 (k : Int))).setCell ⟨g, k * 3 + 1, none⟩ (.slice (some ⟨wo.heap.size, 0, none⟩) n n)).setCell ⟨g, k * 3 + 2, none⟩ (.slice (some ⟨z, 0, none⟩) n cz)) g g n (k + 1) (fun i => if i = k then wo.heap.size else L i) (fun i => if i = k then z else U i) (fun i => if i = k then cz else D i) (fun i j => ((f i j).val : Int)) ∧
          Kp w (((wc.setCell ⟨g, k * 3, none⟩ (.int .i64 (k : Int))).setCell ⟨g, k * 3 + 1, none⟩ (.slice (some ⟨wo.heap.size, 0, none⟩) n n)).setCell ⟨g, k * 3 + 2, none⟩ (.slice (some ⟨z, 0, none⟩) n cz)) by
          have hr : Row wc wo.heap.size (List.replicate n 0) := ((row_new wo n).keep ((Kp.rfl' _).drewN 1)).keep hkc
          have h1 := hr.own (B := g) (n := n) (by omega) (by simp) (by omega)
          rw [Mx.row_rep] at h1
          have hlt1 : wo.heap.size < z := Nat.lt_of_lt_of_le ((row_new wo n).keep ((Kp.rfl' _).drewN 1)).lt hz
          have S := HP.out.step hlt rfl (kdm.trans hkc) h1 (hv.from (B' := g) (Nat.le_trans (Nat.le_of_lt hgl) kdm.size)) (Nat.le_refl _) (Nat.le_of_lt hlt1) (by omega)
          have S2 := st3_kp (HK.out.trans (kdm.trans hkc)) hBg (k * 3) (.int .i64 (k : Int)) (.slice (some ⟨wo.heap.size, 0, none⟩) n n) (.slice (some ⟨z, 0, none⟩) n cz)
          unfold st3 at S S2
          exact ⟨S, S2⟩)
      have SB := Lib.hid (fun (wc : World) (z cz : Nat) (hz : wo.drew.heap.size ≤ z) (hzl : z < wc.heap.size) (hv : Own wc wo.drew.heap.size (.slice (some ⟨z, 0, none⟩) n cz) (Mx.row n fun j => ((f k j).val : Int))) (hkc : Kp wo.drew wc) =>
        show LinP ((((wc.alloc (.cells (madeCells #[.int .i64 0] n) 3)).setCell ⟨g, k * 3, none⟩ (.int .i64 (k : Int))).setCell ⟨g, k * 3 + 1, none⟩ (.slice (some ⟨wc.heap.size, 0, none⟩) n n)).setCell ⟨g, k * 3 + 2, none⟩ (.slice (some ⟨z, 0, none⟩) n cz)) g g n (k + 1) (fun i => if i = k then wc.heap.size else L i) (fun i => if i = k then z else U i) (fun i => if i = k then cz else D i) (fun i j => ((f i j).val : Int)) ∧
          Kp w ((((wc.alloc (.cells (madeCells #[.int .i64 0] n) 3)).setCell ⟨g, k * 3, none⟩ (.int .i64 (k : Int))).setCell ⟨g, k * 3 + 1, none⟩ (.slice (some ⟨wc.heap.size, 0, none⟩) n n)).setCell ⟨g, k * 3 + 2, none⟩ (.slice (some ⟨z, 0, none⟩) n cz)) by
          have hkn := (kd.trans hkc).new (.cells (madeCells #[.int .i64 0] n) 3)
          have hg2 : wo.heap.size ≤ wc.heap.size := (kd.trans hkc).size
          have hz2 : wo.heap.size ≤ z := hz
          have h1 := (row_new wc n).own (B := g) (n := n) (by omega) (by simp) (by omega)
          rw [Mx.row_rep] at h1
          have h2 := (hv.from (B' := g) (Nat.le_trans (Nat.le_of_lt hgl) kd.size)).new (.cells (madeCells #[.int .i64 0] n) 3)
          have S := HP.out.step hlt rfl hkn h1 h2 hg2 hz2 (by omega)
          have S2 := st3_kp (HK.out.trans hkn) hBg (k * 3) (.int .i64 (k : Int)) (.slice (some ⟨wc.heap.size, 0, none⟩) n n) (.slice (some ⟨z, 0, none⟩) n cz)
          unfold st3 at S S2
          exact ⟨S, S2⟩)
      clear hgl hBg
      go_wp2_with fail
      go_region_law (first
        | (go_simp; go_at_call 20; (with_reducible refine (CL.out _ kd).mono ?_); rintro e wc ⟨z, cz, rfl, hz, hzl, hv, hkc⟩
           obtain ⟨⟨v0, q0⟩, ⟨v1, q1⟩, ⟨v2, q2⟩, q3, q4, q5⟩ := FACT.out _ ((kd.trans hkc).new (.cells (madeCells #[.int .i64 0] n) 3))
           have SS := Lib.hid (SB.out wc z cz hz hzl hv hkc))
        | (go_simp; go_at_call 20; (with_reducible refine (CL.out _ kdm).mono ?_); rintro e wc ⟨z, cz, rfl, hz, hzl, hv, hkc⟩
           obtain ⟨⟨v0, q0⟩, ⟨v1, q1⟩, ⟨v2, q2⟩, q3, q4, q5⟩ := FACT.out _ (kdm.trans hkc)
           have SS := Lib.hid (SA.out wc z cz hz hv hkc)))
      all_goals
        clear hz hzl hv hkc
        go_wp2_with fail
        go_roundw
        case rel => exact ⟨k + 1, _, _, _, by omega, by go_num, SS.out.1, SS.out.2⟩
        case measure => simp [intOf]; omega
    · obtain rfl : k = n := by omega
      clear hp hkp HP1 HK1
      go_wp2_with fail
      go_ret
      have hg := HG.out
      exact ⟨g, L, U, D, rfl, by rw [← hg]; exact HP.out.done, HK.out⟩

end Go.Proofs.YtdkdpklohfdpmaaDoor
