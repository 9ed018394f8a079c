/- Contracts of package solve, second part: a way less (slices.Delete), move, satisfy. -/
import Derived.Test.YtcgpommgldecfaaDoorSoC1
import Derived.Deep.RegionLaw
import Derived.Lib.SliceRun
namespace Go.Proofs.YtcgpommgldecfaaDoor
open Go.ChangeShapes Go.WideShapes Go.ChangeAt Go.RowKit
set_option linter.unusedVariables false

theorem own_at {w : World} {B n d : Nat} {A : Option Addr} {l : List Int} (h : Own w B (.slice A n d) l) : Lies w A l := by
  obtain ⟨A', c', e, hl⟩ := h.lies
  cases e; exact hl
theorem ownM_some {w : World} {B : Nat} {v : Value} {G C : Nat → Nat} {m : List (List Int)} (h : OwnM w B v G C m) (h0 : 0 < m.length) : ∃ g cap, v = .slice (some ⟨g, 0, none⟩) m.length cap ∧ m.length ≤ cap ∧ cap ≤ maxLen ∧ B ≤ g := by
  rcases h.top.2 with ⟨_, h1⟩ | ⟨g, cap, cur, e, hg, _, hc, hm, _⟩
  · omega
  · exact ⟨g, cap, e, hc, hm, hg⟩
/-- A row of such a matrix has turned, and nothing else. -/
theorem OwnM.turned {w w' : World} {B n c g cap : Nat} {G C : Nat → Nat} {F : Nat → Nat → Int} {t : Nat} {h1 : Nat → Int} (h : OwnM w B (.slice (some ⟨g, 0, none⟩) n cap) G C (Mx.tab n c F)) (ht : t < n)
    (ho : Own w' B (.slice (some ⟨G t, 0, none⟩) c (C t)) (Mx.row c h1)) (hs : Save (fun b => b = G t) w w') : OwnM w' B (.slice (some ⟨g, 0, none⟩) n cap) G C (Mx.tab n c fun s => if s = t then h1 else F s) := by
  have hw := h.weak
  have ap : ∀ i j, i < n → j < n → i ≠ j → G i ≠ G j := fun i j hi hj => h.apart i j (by rw [Mx.len_tab]; exact hi) (by rw [Mx.len_tab]; exact hj)
  refine OwnH.strong ⟨ownsRow_save hw.top hs fun b hb e => ?_, fun i hi => ?_⟩ ap
  · have : g = b := Option.some.inj hb
    exact hw.apartTop ht (by rw [← e, this])
  · by_cases e : i = t
    · subst e; rw [if_pos rfl]; exact ho
    · rw [if_neg e]
      exact (hw.row i hi).save hs fun b hb e2 => ap i t hi ht e (by rw [← e2]; exact Option.some.inj hb)

theorem save_setCells (g : Nat) : ∀ (vs : List Value) (o : Nat) (w : World), Save (fun b => b = g) w (w.setCells g o vs)
  | [], _, w => Save.refl _ w
  | v :: r, o, w => by
    rw [World.setCells]
    exact Save.trans (S := fun b => b = g) ((Save.refl (fun b => b = g) w).put (p := ⟨g, o, none⟩) rfl v) (save_setCells g r (o + 1) _)
theorem heap_setCells (g : Nat) (e : TypeId) : ∀ (vs : List Value) (o : Nat) (w : World) (cur : Array Value), w.heap[g]? = some (.cells cur e (0, 0)) →
    ∃ cur', (w.setCells g o vs).heap[g]? = some (.cells cur' e (0, 0)) ∧ cur'.size = cur.size ∧ ∀ j, j < cur.size → cur'[j]? = if o ≤ j ∧ j < o + vs.length then vs[j - o]? else cur[j]?
  | [], o, w, cur, h => ⟨cur, h, rfl, fun j _ => by simp; omega⟩
  | v :: r, o, w, cur, h => by
    rw [World.setCells]
    obtain ⟨cur', h1, h2, h3⟩ := heap_setCells g e r (o + 1) (w.setCell ⟨g, o, none⟩ v) _ (heap_setCell_same w g o _ _ v h)
    refine ⟨cur', h1, by rw [h2]; simp, fun j hj => ?_⟩
    rw [h3 j (by simpa using hj)]
    by_cases e1 : j = o
    · subst e1
      rw [if_neg (by omega), if_pos ⟨Nat.le_refl _, by simp⟩]
      simp [hj]
    · by_cases e2 : o + 1 ≤ j ∧ j < o + 1 + r.length
      · rw [if_pos e2, if_pos ⟨by omega, by simp; omega⟩]
        obtain ⟨t, rfl⟩ : ∃ t, j = o + 1 + t := ⟨j - (o + 1), by omega⟩
        rw [show o + 1 + t - (o + 1) = t by omega, show o + 1 + t - o = t + 1 by omega, List.getElem?_cons_succ]
      · rw [if_neg e2, if_neg (by simp; omega), Array.getElem?_setIfInBounds_ne (by omega)]

set_option maxRecDepth 100000 in
set_option maxHeartbeats 4000000 in
/-- One row less. -/
theorem delete_any {B g cap N c k j : Nat} {G C : Nat → Nat} {F : Nat → Nat → Int} (w : World) (hk : k < N) (hj : j = k + 1) (h : OwnM w B (.slice (some ⟨g, 0, none⟩) N cap) G C (Mx.tab N c F)) :
    Calls Tryd.prog 40 #[.slice (some ⟨g, 0, none⟩) N cap, .int .i64 (k : Int), .int .i64 (j : Int)] w fun e w' =>
      e = .returned (.slice (some ⟨g, 0, none⟩) (N - 1) cap) ∧ OwnM w' B (.slice (some ⟨g, 0, none⟩) (N - 1) cap) (fun i => G (Mx.sk k i)) (fun i => C (Mx.sk k i)) (Mx.tab (N - 1) c fun i => F (Mx.sk k i)) ∧ Save (fun b => b = g) w w' := by
  obtain ⟨i0, hi, hz0, hz1, hz2⟩ := info_parts ints_info
  have hw := h.weak
  have ap : ∀ i j, i < N → j < N → i ≠ j → G i ≠ G j := fun i j hi hj => h.apart i j (by rw [Mx.len_tab]; exact hi) (by rw [Mx.len_tab]; exact hj)
  rcases hw.top.2 with ⟨e, _⟩ | ⟨g', cap', cur, hv, hg, hh, hcap, hmx, hsz, htk⟩
  · cases e
  cases hv
  rw [Nat.mul_one] at hsz htk
  have hlt : k < j := by omega
  have hjN : j ≤ N := by omega
  have hcur : ∀ t, t < N → cur[t]? = some (.slice (some ⟨G t, 0, none⟩) c (C t)) := fun t ht => by
    rw [← Array.getElem?_toList, ← List.getElem?_take_of_lt ht, htk]
    simp [hds, ht]
  obtain ⟨news, hnews⟩ : ∃ news, news = (List.range (N - j)).map fun t => Value.slice (some ⟨G (j + t), 0, none⟩) c (C (j + t)) := ⟨_, rfl⟩
  have hlen : news.length = N - j := by rw [hnews]; simp
  have hget : ∀ t, t < N - j → news[t]? = some (Value.slice (some ⟨G (j + t), 0, none⟩) c (C (j + t))) := fun t ht => by rw [hnews]; simp [ht]
  obtain ⟨A, hA, hsrc⟩ : ∃ A : Addr, (if cap = j then some (⟨g, 0, none⟩ : Addr) else some ⟨g, j, none⟩) = some A ∧ Hid (∀ t u, news[t]? = some u → w.drew.cell? (A.add t) = some u) := by
    by_cases hc : cap = j
    · refine ⟨⟨g, 0, none⟩, by simp [hc], fun t u hu => ?_⟩
      have h0 : news.length = 0 := by rw [hlen]; omega
      rw [List.length_eq_zero_iff.1 h0] at hu
      simp at hu
    · refine ⟨⟨g, j, none⟩, by simp [hc], fun t u hu => ?_⟩
      have ht : t < N - j := by
        have := (List.getElem?_eq_some_iff.1 hu).1
        rwa [hlen] at this
      rw [hget t ht] at hu
      have e : (⟨g, j, none⟩ : Addr).add t = ⟨g, j + t, none⟩ := by
        unfold Addr.add
        by_cases h0 : t = 0 <;> simp [h0]
      rw [e]
      show w.cell? ⟨g, j + t, none⟩ = some u
      rw [hw.head (show j + t < N by omega), ← hu]
  have s1 : Hid (news.length = (N - j) * 1) := by rw [Nat.mul_one]; exact hlen
  have s2 : Hid (∀ u ∈ news, u.oneCell' = true) := by
    intro u hu
    rw [hnews] at hu
    obtain ⟨x, _, rfl⟩ := List.mem_map.1 hu
    rfl
  have s3 : Hid (∀ t, t < news.length → (w.drew.cell? ⟨g, 0 + k * 1 + t, none⟩).isSome = true ∧ w.drew.frozen? ⟨g, 0 + k * 1 + t, none⟩ = false) := by
    intro t ht
    rw [hlen] at ht
    rw [Nat.mul_one, Nat.zero_add]
    exact ⟨by show (w.cell? _).isSome = true; rw [hw.head (show k + t < N by omega)]; rfl, hw.topFree _⟩
  obtain ⟨W1, hW1⟩ : ∃ W1, W1 = w.drew.setCells g (0 + k * 1) news := ⟨_, rfl⟩
  obtain ⟨cur1, hc1, hs1, hg1⟩ := heap_setCells g 23 news (0 + k * 1) w.drew cur hh
  rw [← hW1] at hc1
  have hcell1 : ∀ t, t < cap → W1.cell? ⟨g, t, none⟩ = cur1[t]? := fun t ht => cell_of_row _ _ t _ _ (0, 0) hc1
  have hsome1 : ∀ t, t < cap → (W1.cell? ⟨g, t, none⟩).isSome = true := fun t ht => by rw [hcell1 t ht, Array.getElem?_eq_getElem (by omega)]; rfl
  have hfree1 : ∀ t, W1.frozen? ⟨g, t, none⟩ = false := fun t => frozen_of_row W1 g t _ _ hc1
  have hcl : ∀ ty, (Builtin.clear_ #[22] ty #[.slice (some ⟨g, k + (N - j), none⟩) (N - (k + (N - j))) (cap - (k + (N - j)))]).run Tryd.prog W1 = .ok (.tuple #[]) (W1.setCells g (k + (N - j)) (List.replicate (N - (k + (N - j))) (.slice none 0 0))) :=
    fun ty => Lib.run_clear_slice W1 _ 23 ty (.slice none 0 0) Tryd.underlying22 (fun w => by simp [zeroValue, typeInfo, hi, hz0]) rfl rfl g (k + (N - j)) _ _ (by omega) (fun t ht => hsome1 _ (by omega)) (fun t ht => hfree1 _)
  obtain ⟨W2, hW2⟩ : ∃ W2, W2 = W1.setCells g (k + (N - j)) (List.replicate (N - (k + (N - j))) (Value.slice none 0 0)) := ⟨_, rfl⟩
  have ANS : Hid (OwnM W2 B (.slice (some ⟨g, 0, none⟩) (N - 1) cap) (fun i => G (Mx.sk k i)) (fun i => C (Mx.sk k i)) (Mx.tab (N - 1) c fun i => F (Mx.sk k i)) ∧ Save (fun b => b = g) w W2) := by
    have hsv : Save (fun b => b = g) w W2 := by
      rw [hW2, hW1]
      exact (((Save.refl _ w).drewN 1).trans (save_setCells g _ _ _)).trans (save_setCells g _ _ _)
    obtain ⟨cur2, hc2, hs2, hg2⟩ := heap_setCells g 23 (List.replicate (N - (k + (N - j))) (Value.slice none 0 0)) (k + (N - j)) W1 cur1 hc1
    rw [← hW2] at hc2
    have hsk : ∀ i, i < N - 1 → Mx.sk k i < N := fun i hi => by unfold Mx.sk; split <;> omega
    refine ⟨OwnH.strong ⟨⟨by rw [len_hds, Nat.mul_one], .inr ⟨g, cap, cur2, rfl, hg, hc2, by omega, hmx, by rw [Nat.mul_one]; omega, ?_⟩⟩, fun i hi => ?_⟩ fun a b ha hb hne => ap _ _ (hsk a ha) (hsk b hb) fun e => hne (Mx.sk_inj e), hsv⟩
    · rw [Nat.mul_one]
      refine List.ext_getElem? fun t => ?_
      by_cases ht : t < N - 1
      · rw [List.getElem?_take_of_lt ht, Array.getElem?_toList, hg2 t (by omega), if_neg (by omega), hg1 t (by omega)]
        have er : (hds (N - 1) c (fun i => G (Mx.sk k i)) fun i => C (Mx.sk k i))[t]? = some (Value.slice (some ⟨G (Mx.sk k t), 0, none⟩) c (C (Mx.sk k t))) := by simp [hds, ht]
        rw [er]
        by_cases hkt : t < k
        · rw [if_neg (by omega), hcur t (by omega)]
          have : Mx.sk k t = t := by unfold Mx.sk; rw [if_pos hkt]
          rw [this]
        · rw [if_pos ⟨by omega, by rw [hlen]; omega⟩, hget _ (by omega)]
          have : Mx.sk k t = j + (t - (0 + k * 1)) := by unfold Mx.sk; rw [if_neg hkt]; omega
          rw [this]
      · rw [List.getElem?_eq_none (by simp; omega), List.getElem?_eq_none (by rw [len_hds]; omega)]
    · exact (hw.row _ (hsk i hi)).save hsv fun b hb e => hw.apartTop (hsk i hi) (by rw [← e]; exact Option.some.inj hb)
  rw [← hW2] at hcl
  have hW : Hid (W1 = w.drew.setCells g (0 + k * 1) news) := hW1
  have e1 : ((k : Int) == (j : Int)) = false := by rw [beq_eq_false_iff_ne]; omega
  have e2 : k + (N - j) = N - 1 := by omega
  have E2 := Lib.hid e2
  have hkc : k ≤ cap := by omega
  have hjc : j ≤ cap := by omega
  have hmx2 : cap ≤ 9223372036854775807 := by unfold maxLen at hmx; omega
  clear h hw ap hh htk hsz hmx hcur hget hlen hnews hc1 hs1 hg1 hcell1 hsome1 hfree1 hW1 hW2 e2 hz0 hz2 hg
  clear hj
  go_enter Tryd.func40, Tryd.ntmps40
  go_wp2_with fail
  go_region_law (refine step_append_room rfl (.tmp 22) (.tmp 25) 22 rfl 23 i0 1 Tryd.underlying22 hi hz1 g 0 k cap (by simp [Act.eval, Act.put]) A (N - j) (cap - j) news (by simp [Act.eval, Act.put]) s1.out hsrc.out s2.out (by omega) s3.out ?_; rw [← hW.out])
  go_wp2_with fail
  go_ret
  exact ⟨by rw [E2.out]; rfl, ANS.out⟩

set_option maxRecDepth 100000 in
set_option maxHeartbeats 1600000 in
theorem move_any {B B' gt ct gw cw gp B0 c i : Nat} {f : Nat → Nat → Fp.F} {u wv : Nat → Fp.F} (want : Fp.F) (w : World) (hc : c ≤ 1000) (hv : Val w gp B0 c f i) (ht : Own w B (.slice (some ⟨gt, 0, none⟩) c ct) (rowF c u))
    (hw : Own w B' (.slice (some ⟨gw, 0, none⟩) c cw) (rowF c wv)) (hne : gw ≠ gt) (hgp : gp ≠ gt) (hB : B0 ≤ gt) (h0 : Mx.tov c f wv i ≠ 0) :
    Calls Tryd.prog 41 #[.func (.func 42) #[] #[.pointer (some ⟨gp, 0, none⟩)], .int .i64 (want.val : Int), .slice (some ⟨gt, 0, none⟩) c ct, .slice (some ⟨gw, 0, none⟩) c cw] w fun e w' =>
      e = .returned .nilIface ∧ Own w' B (.slice (some ⟨gt, 0, none⟩) c ct) (rowF c (Mx.mv c f i want wv u)) ∧ Save (fun b => b = gt) w w' := by
  have hlt : gt < w.heap.size := (World.ownsRow.lt ht gt rfl).2
  have V1 := Lib.hid (value_any (some ⟨gt, 0, none⟩) gp B0 c ct i f u w hc hv (by omega) (own_at ht))
  have V2 := Lib.hid (value_any (some ⟨gw, 0, none⟩) gp B0 c cw i f wv w hc hv (by omega) (own_at hw))
  have DV := Lib.hid (fun w => div_el (want - Mx.tov c f u i) (Mx.tov c f wv i) w h0)
  have HM := Lib.hid (show ∀ j, Mx.mv c f i want wv u j = u j + ((want - Mx.tov c f u i) * Fp.inv (Mx.tov c f wv i)) * wv j from fun j => rfl)
  generalize Mx.mv c f i want wv u = res at *
  have HQ := Lib.hid (sub_mod want (Mx.tov c f u i))
  have q1 := gval want
  have q2 := gval (Mx.tov c f u i)
  unfold el at DV
  obtain ⟨q, hq⟩ : ∃ q, q = (want - Mx.tov c f u i) * Fp.inv (Mx.tov c f wv i) := ⟨_, rfl⟩
  rw [← hq] at DV HM
  have q3 := gval q
  have HT := Lib.hid ht
  have HW := Lib.hid hw
  have HNE := Lib.hid hne
  clear hv ht hw hne hgp h0 hB hq
  generalize ((want - Mx.tov c f u i : Fp.F).val : Int) = mis at *
  generalize ((Mx.tov c f wv i).val : Int) = den at *
  generalize ((Mx.tov c f u i).val : Int) = cur at *
  generalize (want.val : Int) = wnt at *
  have hm := HQ.out
  have hw1 : IntKind.i64.wrap (wnt - cur) = wnt - cur := IntWalk.i64_in _ (by omega)
  have hw2 : IntKind.i64.wrap (wnt - cur + 9973) = wnt - cur + 9973 := IntWalk.i64_in _ (by omega)
  clear q1 q2
  go_enter Tryd.func41, Tryd.ntmps41
  go_wp2_with fail
  refine (V1.out).mono ?_; rintro e w' ⟨rfl, rfl⟩
  go_wp2_with fail
  refine (V2.out).mono ?_; rintro e w' ⟨rfl, rfl⟩
  go_wp2_with fail
  refine (DV.out _).mono ?_; rintro e w1 ⟨rfl, hd⟩
  have HT1 := Lib.hid (HT.out.kp hd.kp)
  have HW1 := Lib.hid (HW.out.kp hd.kp)
  have HS1 := Lib.hid (Save.of (S := fun b => b = gt) hd.kp)
  clear hd hm hw1 hw2
  go_wp2_with fail
  go_loopw [34] (fun j wr => ∃ k : Nat, k ≤ c ∧ j = .int .i64 (k : Int) ∧ Own wr B (.slice (some ⟨gt, 0, none⟩) c ct) (Mx.row c fun j => if j < k then ((u j + q * wv j : Fp.F).val : Int) else ((u j).val : Int)) ∧ Save (fun b => b = gt) w wr ∧ Save (fun b => b = gt) w1 wr) (fun j _ => c - (intOf j).toNat)
  case atStart => exact ⟨0, Nat.zero_le _, rfl, by rw [Mx.row_ext (h := fun j => ((u j).val : Int)) (fun j _ => by rw [if_neg (by omega)])]; exact HT1.out, HS1.out, Save.refl _ _⟩
  case round =>
    obtain ⟨k, hk, rfl, ho, hs, hs1⟩ := hrel
    by_cases hlt2 : k < c
    · have hw' := HW1.out.save hs1 (fun b hb e => HNE.out (by rw [← e]; exact Option.some.inj hb))
      have y1 := own_cell hw' k (by rw [Mx.len_row]; exact hlt2)
      have y2 := own_cell ho k (by rw [Mx.len_row]; exact hlt2)
      have y3 := own_free ho k
      rw [Mx.row_at _ _ _ hlt2] at y1 y2
      rw [if_neg (by omega)] at y2
      have HP := Lib.hid ho
      have HS := Lib.hid hs
      have HS1' := Lib.hid hs1
      have hm := more_mod (u k) q (wv k)
      have hb := times_bound q (wv k)
      have hb2 := gval (u k)
      obtain ⟨z, hz⟩ : ∃ z, z = ((u k + q * wv k : Fp.F).val : Int) := ⟨_, rfl⟩
      rw [← hz] at hm
      have HZ := Lib.hid hz
      generalize ((u k).val : Int) = a0 at *
      generalize ((wv k).val : Int) = b0 at *
      generalize (q.val : Int) = c0 at *
      have hwm : IntKind.i64.wrap (c0 * b0) = c0 * b0 := IntWalk.i64_in _ (by omega)
      have hwa : IntKind.i64.wrap (a0 + c0 * b0) = a0 + c0 * b0 := IntWalk.i64_in _ (by omega)
      clear ho hs hs1 hw' hz hb hb2
      go_wp2_with fail
      go_roundw
      case rel =>
        refine ⟨k + 1, by omega, by go_num, ?_, HS.out.put (p := ⟨gt, k, none⟩) rfl _, HS1'.out.put (p := ⟨gt, k, none⟩) rfl _⟩
        have := own_put HP.out k z
        rw [Mx.row_set] at this
        rw [Mx.row_ext (h := fun j => if j = k then z else if j < k then ((u j + q * wv j : Fp.F).val : Int) else ((u j).val : Int)) fun j hj => ?_]
        · exact this
        · by_cases e : j = k
          · rw [if_pos e, if_pos (by omega), HZ.out, e]
          · rw [if_neg e]
            by_cases e2 : j < k
            · rw [if_pos e2, if_pos (by omega)]
            · rw [if_neg e2, if_neg (by omega)]
      case measure => simp [intOf]; omega
    · obtain rfl : k = c := by omega
      have HP := Lib.hid ho
      have HS := Lib.hid hs
      clear ho hs hs1
      go_wp2_with fail
      go_ret
      refine ⟨rfl, ?_, HS.out⟩
      rw [show rowF k res = Mx.row k fun j => if j < k then ((u j + q * wv j : Fp.F).val : Int) else ((u j).val : Int) from Mx.row_ext fun j hj => by rw [if_pos hj, HM.out j]]
      exact HP.out
end Go.Proofs.YtcgpommgldecfaaDoor
