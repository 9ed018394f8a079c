/- Several texts, one behind the other: DeC1, Sqr, MtC1, MatG, GaC1, DeC2, DeC3, Ct, MatL, PolM, MatC, MatC2, PolN, IpM, CpM, CpC1, Bz, Fld, PolC1, PolC2, PolC3, PolC4, Idx, IpC, IpC2, IpC3. -/
import Derived.Test.YtologiinkilooaaDoorCharSaysProofG1
import Derived.StillTailTactics
import Derived.Deep.LoopGhost
import Derived.Deep.RegionHeld3
import Derived.Laws.CopyOwn
import Derived.Lib.SliceRun

/- Contracts of package det, first part: ascending, Sign. -/
namespace Go.Proofs.YtologiinkilooaaDoor
open Go.ChangeShapes Go.WideShapes Go.ChangeAt Go.RowKit
set_option linter.unusedVariables false

set_option maxRecDepth 100000 in
set_option maxHeartbeats 1600000 in
theorem ascending_any (n : Nat) (w : World) (hn : n ≤ 1000) :
    Calls Tryd.prog 32 #[.int .i64 (n : Int)] w fun e w' =>
      e = .returned (.slice (some ⟨w.heap.size, 0, none⟩) n n) ∧ Row w' w.heap.size (Mx.row n fun i => (i : Int)) ∧ Kp w w' := by
  obtain ⟨i0, hi, hz0, hz1, hz2⟩ := info_parts int_info
  go_enter Tryd.func32, Tryd.ntmps32
  go_wp2_with (at_make; refine wpList_make_full _ rfl _ _ 24 rfl w.heap.size 3 i0 (.int .i64 0) 1 Tryd.underlying24 hi hz0 hz1 _ _ _ _ n rfl rfl rfl rfl (by rw [hz2]; omega) (by unfold maxLen; omega) (Nat.le_refl _) ?_; intro w1 hown hgrow)
  have HR := Lib.hid (row_made hown)
  have HK := Lib.hid (show Kp w w1 from (Kp.rfl' w).grown hgrow (by simp) (fun k hk => by cases hk))
  obtain ⟨g, hg⟩ : ∃ g, g = w.heap.size := ⟨_, rfl⟩
  rw [← hg] at HR ⊢
  have HG := Lib.hid (show w.heap.size ≤ g by omega)
  have HE := Lib.hid hg
  clear hown hgrow hg
  go_wp2_with fail
  go_loopw [9] (fun i wr => ∃ k : Nat, k ≤ n ∧ i = .int .i64 (k : Int) ∧ Row wr g (Mx.row n fun j => if j < k then (j : Int) else 0) ∧ Kp w wr) (fun i _ => n - (intOf i).toNat)
  case atStart =>
    refine ⟨0, Nat.zero_le _, rfl, ?_, HK.out⟩
    have := HR.out
    rw [Mx.row_rep] at this
    rw [show (Mx.row n fun j => if j < 0 then (j : Int) else 0) = Mx.row n fun _ => 0 from Mx.row_ext fun j _ => by rw [if_neg (by omega)]]
    exact this
  case round =>
    obtain ⟨k, hk, rfl, hr, hkp⟩ := hrel
    by_cases hlt : k < n
    · have y1 := hr.cell k (by rw [Mx.len_row]; exact hlt)
      have y2 := hr.free k
      have HP := Lib.hid (hr.put k (k : Int))
      have HQ := Lib.hid (hkp.put (p := ⟨g, k, none⟩) HG.out (.int .i64 (k : Int)))
      clear hr hkp
      go_wp2_with fail
      go_roundw
      case rel =>
        refine ⟨k + 1, by omega, by go_num, ?_, HQ.out⟩
        have := HP.out
        rw [Mx.row_set] at this
        rw [show (Mx.row n fun j => if j < k + 1 then (j : Int) else 0) = Mx.row n fun j => if j = k then (k : Int) else if j < k then (j : Int) else 0 from Mx.row_ext fun j _ => by
          by_cases e : j = k
          · rw [if_pos e, if_pos (by omega), e]
          · rw [if_neg e]
            by_cases e2 : j < k
            · rw [if_pos e2, if_pos (by omega)]
            · rw [if_neg e2, if_neg (by omega)]]
        exact this
      case measure => simp [intOf]; omega
    · obtain rfl : k = n := by omega
      have HR2 := Lib.hid (show Row wr g (Mx.row k fun i => (i : Int)) by
        rw [show (Mx.row k fun i => (i : Int)) = Mx.row k fun j => if j < k then (j : Int) else 0 from Mx.row_ext fun j hj => by rw [if_pos hj]]
        exact hr)
      have HQ := Lib.hid hkp
      clear hr hkp
      go_wp2_with fail
      go_ret
      refine ⟨?_, ?_, HQ.out⟩
      · show Ending.returned (.slice (some ⟨g, 0, none⟩) k k) = _
        rw [HE.out]
      · rw [← HE.out]; exact HR2.out

/-- Where the sorting of an order stands: x times the sign of what is left is the order's sign; the first k are at their places. -/
structure Srt (w0 w : World) (g n c : Nat) (S : Fp.F) (k : Nat) (l : List Int) (x : Int) : Prop where
  own : Own w w0.heap.size (.slice (some ⟨g, 0, none⟩) n c) l
  len : l.length = n
  pm : x = 1 ∨ x = -1
  eq : Fp.ofInt x * Mx.sp n (fun i => l.getD i 0) = S
  fix : ∀ t, t < k → l.getD t 0 = (t : Int)
  kp : Kp w0 w
theorem Srt.next {w0 w : World} {g n c : Nat} {S : Fp.F} {k : Nat} {l : List Int} {x : Int} (h : Srt w0 w g n c S k l x) (e : l.getD k 0 = (k : Int)) : Srt w0 w g n c S (k + 1) l x :=
  ⟨h.own, h.len, h.pm, h.eq, fun t ht => by
    by_cases hk : t = k
    · rw [hk]; exact e
    · exact h.fix t (by omega), h.kp⟩
theorem getD_set2 {l : List Int} {k m : Nat} (hk : k < l.length) (hm : m < l.length) (x y : Int) (i : Nat) : ((l.set k x).set m y).getD i 0 = if i = m then y else if i = k then x else l.getD i 0 := by
  rw [List.getD_eq_getElem?_getD, List.getD_eq_getElem?_getD, List.getElem?_set, List.getElem?_set]
  by_cases h1 : i = m
  · rw [if_pos h1.symm, if_pos (by simpa using hm), if_pos h1]; rfl
  · rw [if_neg (fun e => h1 e.symm), if_neg h1]
    by_cases h2 : i = k
    · rw [if_pos h2.symm, if_pos hk, if_pos h2]; rfl
    · rw [if_neg (fun e => h2 e.symm), if_neg h2]
/-- Two numbers change places: the one that stood at place k comes home. -/
theorem Srt.swap {w0 w : World} {g n c : Nat} {S : Fp.F} {k : Nat} {l : List Int} {x : Int} (h : Srt w0 w g n c S k l x) (hk : k < n) {m : Nat} (hm : m < n) (e : l.getD k 0 = (m : Int)) (hne : m ≠ k) (h2 : l.getD m 0 ≠ (m : Int)) (hB : w0.heap.size ≤ g) :
    Srt w0 ((w.setCell ⟨g, k, none⟩ (.int .i64 (l.getD m 0))).setCell ⟨g, m, none⟩ (.int .i64 (m : Int))) g n c S k ((l.set k (l.getD m 0)).set m (m : Int)) (-x) ∧
      Mx.nf n (fun i => ((l.set k (l.getD m 0)).set m (m : Int)).getD i 0) < Mx.nf n fun i => l.getD i 0 := by
  have hg : ∀ i, ((l.set k (l.getD m 0)).set m (m : Int)).getD i 0 = l.getD (Mx.sw k m i) 0 := fun i => by
    rw [getD_set2 (by rw [h.len]; exact hk) (by rw [h.len]; exact hm)]
    by_cases h1 : i = m
    · rw [if_pos h1, h1, Mx.sw_right, e]
    · rw [if_neg h1]
      by_cases h3 : i = k
      · rw [if_pos h3, h3, Mx.sw_left]
      · rw [if_neg h3, Mx.sw_none h3 h1]
  refine ⟨⟨own_put (own_put h.own k _) m _, by rw [List.length_set, List.length_set]; exact h.len, ?_, ?_, fun t ht => ?_, (h.kp.put (p := ⟨g, k, none⟩) hB _).put (p := ⟨g, m, none⟩) hB _⟩, ?_⟩
  · rcases h.pm with a | a <;> rw [a] <;> simp
  · rw [Mx.sp_congr (t := fun i => l.getD (Mx.sw k m i) 0) fun i _ => hg i, Mx.sp_swap (fun i => l.getD i 0) hk hm (fun e => hne e.symm), Mx.ofInt_neg, ← h.eq]; grind
  · have h3 := h.fix t ht
    have : t ≠ m := fun e => by rw [e] at h3; exact h2 h3
    rw [hg, Mx.sw_none (by omega) this]; exact h3
  · refine Mx.nf_lt n (m := m) (fun i hi h3 => ?_) hm h2 ?_
    · have a1 : i ≠ m := fun e => by rw [e] at h3; exact h2 h3
      have a2 : i ≠ k := fun e2 => by rw [e2] at h3; rw [h3] at e; omega
      rw [hg, Mx.sw_none a2 a1]; exact h3
    · rw [hg, Mx.sw_right]; exact e

/-- The sign of an order comes out. -/
def Signed (S : Fp.F) (w : World) (e : Ending) (w' : World) : Prop := ∃ x, e = .returned (.int .i64 x) ∧ Mx.SgnIs S x ∧ Kp w w'
set_option maxRecDepth 100000 in
set_option maxHeartbeats 3200000 in
theorem Sign_pos (A : Option Addr) (l : List Int) (n c : Nat) (w : World) (hl : Lies w A l) (hn : l.length = n) (h0 : 0 < n) (h1 : n ≤ 1000) :
    Calls Tryd.prog 34 #[.slice A n c] w fun e w' => Signed (Mx.sp n fun i => l.getD i 0) w e w' := by
  have CL := Lib.hid (show Calls Tryd.prog 53 #[.slice A n c] w fun e w' => SomeRow l w e w' by
    rw [← hn]; exact sclone_any A l c w hl (by omega))
  obtain ⟨S, hS⟩ : ∃ S, S = Mx.sp n fun i => l.getD i 0 := ⟨_, rfl⟩
  rw [← hS]
  have HS := Lib.hid hS
  have HN := Lib.hid hn
  clear hl hS hn
  go_enter Tryd.func34, Tryd.ntmps34
  go_wp2_with fail
  refine (CL.out).mono ?_; rintro e w1 ⟨v, rfl, ho, hk⟩
  obtain ⟨g, cap, rfl, hg, hcap⟩ := own_some ho (by rw [HN.out]; exact h0)
  rw [HN.out] at ho hcap ⊢
  have ST := Lib.hid (show Srt w w1 g n cap S 0 l 1 from ⟨ho, HN.out, .inl rfl, by rw [← HS.out, show Fp.ofInt 1 = 1 from rfl]; grind, fun t ht => absurd ht (by omega), hk⟩)
  have HB := Lib.hid hg
  clear ho hk hg
  go_wp2_with fail
  go_loopw [3, 11] (fun s i wr => ∃ (k : Nat) (l : List Int) (x : Int), k ≤ n ∧ i = .int .i64 (k : Int) ∧ s = .int .i64 x ∧ Srt w wr g n cap S k l x) (fun _ i _ => n - (intOf i).toNat)
  case atStart => exact ⟨0, l, 1, Nat.zero_le _, rfl, rfl, ST.out⟩
  case round =>
    clear ST HS HN
    obtain ⟨k, l, x, hk, rfl, rfl, st⟩ := hrel
    by_cases hlt : k < n
    · have ST := Lib.hid st
      clear st
      go_wp2_with fail
      go_loopg [3] (Mx.nf n fun i => l.getD i 0) (fun q s wq => ∃ (l : List Int) (x : Int), s = .int .i64 x ∧ Srt w wq g n cap S k l x ∧ Mx.nf n (fun i => l.getD i 0) = q)
      case atStart => exact ⟨l, x, rfl, ST.out, rfl⟩
      case round =>
        clear ST
        obtain ⟨l, x, rfl, st, hq⟩ := hrel
        have ST := Lib.hid st
        have HQ := Lib.hid hq
        have c1 := own_cell st.own k (by rw [st.len]; exact hlt)
        have z1 := own_free st.own k
        have hxb : -1 ≤ x ∧ x ≤ 1 := by rcases st.pm with a | a <;> omega
        obtain ⟨y, hy⟩ : ∃ y, y = l.getD k 0 := ⟨_, rfl⟩
        rw [← hy] at c1
        have HY := Lib.hid hy
        clear st hq hy
        by_cases e : y = (k : Int)
        · have e1 : (y != (k : Int)) = false := by rw [e]; simp
          have ST2 := Lib.hid (ST.out.next (by rw [← HY.out]; exact e))
          clear e
          go_wp2_with fail
          go_roundw
          case rel => exact ⟨k + 1, l, x, by omega, by go_num, rfl, ST2.out⟩
          case measure => simp [intOf]; omega
        · have e1 : (y != (k : Int)) = true := by rw [bne_iff_ne]; exact e
          have ZERO := Lib.hid (fun h : Mx.sp n (fun i => l.getD i 0) = 0 => show Mx.SgnIs S 0 from ⟨.inr (.inr rfl), by rw [← ST.out.eq, h, show Fp.ofInt 0 = 0 from rfl]; grind⟩)
          by_cases h2 : y < 0
          · have Z := Lib.hid (ZERO.out (Mx.sp_out hlt (.inl (by rw [← HY.out]; exact h2))))
            clear e ZERO
            go_wp2_with fail
            go_ret
            exact ⟨0, rfl, Z.out, ST.out.kp⟩
          · by_cases h3 : (n : Int) ≤ y
            · have Z := Lib.hid (ZERO.out (Mx.sp_out hlt (.inr (by rw [← HY.out]; exact h3))))
              clear e ZERO
              go_wp2_with fail
              go_ret
              exact ⟨0, rfl, Z.out, ST.out.kp⟩
            · obtain ⟨m, rfl⟩ : ∃ m : Nat, y = (m : Int) := ⟨y.toNat, by omega⟩
              have hm : m < n := by omega
              have hne : m ≠ k := fun h => e (by rw [h])
              have c2 := own_cell ST.out.own m (by rw [ST.out.len]; exact hm)
              obtain ⟨z, hz⟩ : ∃ z, z = l.getD m 0 := ⟨_, rfl⟩
              rw [← hz] at c2
              have HZ := Lib.hid hz
              clear hz h2 h3 e
              by_cases e2 : z = (m : Int)
              · have e3 : (z == (m : Int)) = true := by rw [e2]; simp
                have Z := Lib.hid (ZERO.out (Mx.sp_twice hlt hm (fun h => hne h.symm) (by rw [← HY.out, ← HZ.out, e2])))
                clear ZERO e2
                go_wp2_with fail
                go_ret
                exact ⟨0, rfl, Z.out, ST.out.kp⟩
              · have e3 : (z == (m : Int)) = false := by rw [beq_eq_false_iff_ne]; exact e2
                have SW := Lib.hid (ST.out.swap hlt hm HY.out.symm hne (by rw [← HZ.out]; exact e2) HB.out)
                rw [← HZ.out] at SW
                have z3 := own_free (own_put ST.out.own k z) m
                have c3 : (wr.setCell ⟨g, k, none⟩ (.int .i64 z)).cell? ⟨g, m, none⟩ = some (.int .i64 z) := by
                  have hne' : (⟨g, k, none⟩ : Addr) ≠ ⟨g, m, none⟩ := fun e' => hne (by cases e'; rfl)
                  rw [World.cell?_setCell_other (w := wr) (v := .int .i64 z) (h := hne')]; exact c2

                have hwn : IntKind.i64.wrap (-x) = -x := IntWalk.i64_in _ (by omega)
                clear ZERO e2
                go_wp2_with fail
                go_roundg (Mx.nf n fun i => ((l.set k z).set m (m : Int)).getD i 0)
                case measure => rw [← HQ.out]; exact SW.out.2
                case rel => exact ⟨(l.set k z).set m (m : Int), -x, rfl, SW.out.1, rfl⟩
    · obtain rfl : k = n := by omega
      have Z := Lib.hid (show Mx.SgnIs S x from ⟨by rcases st.pm with a | a <;> simp [a], by
        rw [← st.eq, Mx.sp_id fun i hi => st.fix i hi]; grind⟩)
      have HK := Lib.hid st.kp
      clear st
      go_wp2_with fail
      go_ret
      exact ⟨x, rfl, Z.out, HK.out⟩

set_option maxRecDepth 100000 in
theorem Sign_zero (A : Option Addr) (c : Nat) (w : World) :
    Calls Tryd.prog 34 #[.slice A 0 c] w fun e w' => Signed 1 w e w' := by
  have CL := Lib.hid (sclone_any A [] c w (fun k hk => absurd hk (by simp)) (by simp))
  rw [List.length_nil] at CL
  go_enter Tryd.func34, Tryd.ntmps34
  go_wp2_with fail
  refine (CL.out).mono ?_; rintro e w1 ⟨v, rfl, ho, hk⟩
  obtain ⟨A1, c1, rfl, _, _⟩ := ho.cap
  rw [List.length_nil]
  have HK := Lib.hid hk
  clear ho hk
  go_wp2_with fail
  go_loopw [3, 11] (fun s i wr => i = .int .i64 0 ∧ s = .int .i64 1 ∧ wr = w1) (fun _ i _ => 0)
  case atStart => exact ⟨rfl, rfl, rfl⟩
  case round =>
    obtain ⟨rfl, rfl, rfl⟩ := hrel
    go_wp2_with fail
    go_ret
    exact ⟨1, rfl, ⟨.inl rfl, rfl⟩, HK.out⟩
theorem Sign_any (A : Option Addr) (l : List Int) (n c : Nat) (w : World) (hl : Lies w A l) (hn : l.length = n) (h1 : n ≤ 1000) :
    Calls Tryd.prog 34 #[.slice A n c] w fun e w' => Signed (Mx.sp n fun i => l.getD i 0) w e w' := by
  by_cases h0 : n = 0
  · subst h0; exact Sign_zero A c w
  · exact Sign_pos A l n c w hl hn (by omega) h1

end Go.Proofs.YtologiinkilooaaDoor

/- Square matrices: what is wrong with one. No program is named here. -/
namespace Go.Proofs.YtologiinkilooaaDoor
set_option linter.unusedVariables false

/-- What is wrong with a matrix that should be square. -/
def qcode (most : Nat) (lo hi : Int) (m : List (List Int)) : Nat := if Mx.mcode most lo hi m = 0 ∧ m.length ≠ (m.getD 0 []).length then 3 else Mx.mcode most lo hi m
theorem qcode_le (most : Nat) (lo hi : Int) (m : List (List Int)) : qcode most lo hi m ≤ 5 := by
  unfold qcode
  split
  · omega
  · exact Mx.mcode_le _ _ _ _
theorem qcode_bad {most : Nat} {lo hi : Int} {m : List (List Int)} (h : Mx.mcode most lo hi m ≠ 0) : qcode most lo hi m = Mx.mcode most lo hi m := by
  unfold qcode; rw [if_neg (fun h' => h h'.1)]
theorem qcode_zero {most : Nat} {m : List (List Int)} (h : qcode most 0 9972 m = 0) : Mx.mcode most 0 9972 m = 0 ∧ m.length = (m.getD 0 []).length := by
  unfold qcode at h
  by_cases h0 : Mx.mcode most 0 9972 m = 0 ∧ m.length ≠ (m.getD 0 []).length
  · rw [if_pos h0] at h; cases h
  · rw [if_neg h0] at h
    exact ⟨h, Classical.byContradiction fun e => h0 ⟨h, e⟩⟩
theorem qcode_matl {most n : Nat} (f : Nat → Nat → Fp.F) (h0 : 0 < n) (h1 : n ≤ most) : qcode most 0 9972 (Mx.matl n n f) = 0 := by
  unfold qcode
  rw [if_neg fun h => h.2 (by rw [Mx.len_matl]; exact (Mx.tab_len n n _ 0 h0).symm)]
  exact Mx.mcode_matl f h0 h1 h0 h1

end Go.Proofs.YtologiinkilooaaDoor

/- Contracts of package mat, first part: zero, identity, checkRow, Check, checkBoth. -/
namespace Go.Proofs.YtologiinkilooaaDoor
open Go.ChangeShapes Go.WideShapes Go.ChangeAt Go.RowKit
set_option linter.unusedVariables false

set_option maxRecDepth 100000 in
set_option maxHeartbeats 1600000 in
theorem zero_any (r c : Nat) (w : World) (hr : r ≤ 1000) (hc : c ≤ 1000) :
    Calls Tryd.prog 39 #[.int .i64 (r : Int), .int .i64 (c : Int)] w fun e w' =>
      ∃ G, e = .returned (.slice (some ⟨w.heap.size, 0, none⟩) r r) ∧ Grid w' w.heap.size G r c (fun _ _ => 0) ∧ Kp w w' := by
  obtain ⟨i0, hi, hz0, hz1, hz2⟩ := info_parts int_info
  obtain ⟨j0, hj, hy0, hy1, hy2⟩ := info_parts ints_info
  go_enter Tryd.func39, Tryd.ntmps39
  go_wp2_with (at_make; refine wpList_make_full _ rfl _ _ 22 rfl w.heap.size 24 j0 (.slice none 0 0) 1 Tryd.underlying22 hj hy0 hy1 _ _ _ _ r rfl rfl rfl rfl (by rw [hy2]; omega) (by unfold maxLen; omega) (Nat.le_refl _) ?_; intro w1 hown hgrow)
  have hpart : Part w1 w.heap.size (fun _ => 0) r c 0 := Part.start hown
  have hkp : Kp w w1 := (Kp.rfl' w).grown hgrow (by simp) (fun k hk => by cases hk)
  clear hown hgrow hj hy0 hy1 hy2
  obtain ⟨g, hg⟩ : ∃ g, g = w.heap.size := ⟨_, rfl⟩
  rw [← hg] at hpart ⊢
  have HG := Lib.hid hg
  clear hg
  go_loopw [11] (fun i wr => ∃ (k : Nat) (G : Nat → Nat), k ≤ r ∧ i = .int .i64 (k : Int) ∧ Part wr g G r c k ∧ Kp w wr) (fun i _ => r - (intOf i).toNat)
  case atStart => exact ⟨0, _, Nat.zero_le _, rfl, hpart, hkp⟩
  case round =>
    clear hpart hkp
    obtain ⟨k, G, hk, rfl, hp, hkp⟩ := hrel
    by_cases hlt : k < r
    · have HP := Lib.hid hp
      have HK := Lib.hid hkp
      clear hp hkp
      go_wp2_with (at_make; refine wpList_make_full _ rfl _ _ 24 rfl wr.heap.size 3 i0 (.int .i64 0) 1 Tryd.underlying24 hi hz0 hz1 _ _ _ _ c rfl rfl rfl rfl (by rw [hz2]; omega) (by unfold maxLen; omega) (Nat.le_refl _) ?_; intro w2 hown hgrow; have hkp2 : Kp wr w2 := (Kp.rfl' wr).grown hgrow (by simp) (fun k hk => by cases hk); have hcell := (HP.out.keep hkp2).cell (Nat.le_refl k) hlt; have hfree := (HP.out.keep hkp2).free k)
      go_roundw
      case rel => exact ⟨k + 1, _, by omega, by go_num, HP.out.step hlt (row_made hown) hkp2, (HK.out.trans hkp2).put (p := ⟨g, k, none⟩) (by show w.heap.size ≤ g; rw [HG.out]; exact Nat.le_refl _) _⟩
      case measure => simp [intOf]; omega
    · obtain rfl : k = r := by omega
      have HP := Lib.hid hp
      have HK := Lib.hid hkp
      clear hp hkp
      obtain rfl := HG.out
      go_wp2_with fail
      go_ret
      exact ⟨rfl, ⟨_, HP.out.done⟩, HK.out⟩



set_option maxRecDepth 100000 in
set_option maxHeartbeats 800000 in
theorem checkRow_any (A : Option Addr) (l : List Int) (n d c : Nat) (w : World) (ha : Lies w A l) (hn : l.length = n) (hb : c ≤ 1000) :
    Calls Tryd.prog 48 #[.slice A n d, .int .i64 (c : Int)] w fun e w' => e = .returned (errOf (Mx.rcode 0 9972 c l)) ∧ w = w' := by
  have HA := Lib.hid ha
  have HN := Lib.hid hn
  obtain ⟨v, hv⟩ : ∃ v, v = Mx.rcode 0 9972 c l := ⟨_, rfl⟩
  by_cases hc : n = c
  · subst hc
    have RNG := Lib.hid (fun (k : Nat) (hk : k < n) h2 => hv.trans (Mx.rcode_bad hn (k := k) (by omega) h2))
    have OKS := Lib.hid (fun h2 => hv.trans (Mx.rcode_ok (lo := 0) (hi := 9972) hn h2))
    rw [← hv]
    have e1 : ((n : Int) != (n : Int)) = false := by simp
    clear ha hn hv
    go_enter Tryd.func48, Tryd.ntmps48
    go_wp2_with fail
    go_loop [14] (fun i => ∃ k : Nat, k ≤ n ∧ i = .int .i64 (k : Int) ∧ ∀ j, j < k → 0 ≤ l.getD j 0 ∧ l.getD j 0 ≤ 9972) (fun i => n - (intOf i).toNat)
    case atStart => exact ⟨0, Nat.zero_le _, rfl, fun j hj => absurd hj (by omega)⟩
    case round =>
      obtain ⟨k, hk, rfl, hg⟩ := hrel
      have HG := Lib.hid hg
      clear hg
      by_cases hlt : k < n
      · obtain ⟨ad, rfl, _, hcx⟩ := HA.out k (by have := HN.out; omega)
        obtain ⟨x, hx⟩ : ∃ x, x = l.getD k 0 := ⟨_, rfl⟩
        rw [← hx] at hcx
        by_cases x0 : x < 0
        · have E := Lib.hid (RNG.out k hlt (by rw [← hx]; omega))
          clear hx
          go_wp2_with fail
          go_ret
          exact ⟨by rw [E.out]; rfl, rfl⟩
        · by_cases x1 : 9973 ≤ x
          · have E := Lib.hid (RNG.out k hlt (by rw [← hx]; omega))
            clear hx
            go_wp2_with fail
            go_ret
            exact ⟨by rw [E.out]; rfl, rfl⟩
          · have GG := Lib.hid (show ∀ j, j < k + 1 → 0 ≤ l.getD j 0 ∧ l.getD j 0 ≤ 9972 from fun j hj => by
              by_cases e : j = k
              · subst e; rw [← hx]; omega
              · exact HG.out j (by omega))
            clear hx
            go_wp2_with fail
            go_round
            case rel => exact ⟨k + 1, by omega, by go_num, GG.out⟩
            case measure => simp [intOf]; omega
      · have E := Lib.hid (OKS.out (fun j hj => HG.out j (by have := HN.out; omega)))
        go_wp2_with fail
        go_ret
        exact ⟨by rw [E.out]; rfl, rfl⟩
  · have E := Lib.hid (hv.trans (Mx.rcode_len (lo := 0) (hi := 9972) (by omega : l.length ≠ c)))
    rw [← hv]
    have e1 : ((n : Int) != (c : Int)) = true := by rw [bne_iff_ne]; omega
    clear ha hn hv hc
    go_enter Tryd.func48, Tryd.ntmps48
    go_wp2_with fail
    go_ret
    exact ⟨by rw [E.out]; rfl, rfl⟩

/-- The first k rows have no fault. -/
def rowsGo (lo hi : Int) (m : List (List Int)) (k : Nat) : Prop := Mx.rows lo hi (m.getD 0 []).length m = Mx.rows lo hi (m.getD 0 []).length (m.drop k)
theorem rows_go {lo hi : Int} {m : List (List Int)} {k : Nat} (hk : k < m.length) (h : rowsGo lo hi m k) (h0 : Mx.rcode lo hi (m.getD 0 []).length (m.getD k []) = 0) : rowsGo lo hi m (k + 1) := by
  unfold rowsGo at *
  rw [h, Mx.rows_drop hk, if_pos h0]

set_option maxRecDepth 100000 in
set_option maxHeartbeats 1600000 in
theorem Check_main (A : Option Addr) (m : List (List Int)) (n d q : Nat) (w : World) (ha : LiesM w A m) (hn : m.length = n) (hq : (m.getD 0 []).length = q) (h1 : 0 < n) (h2 : n ≤ 5) (h3 : 0 < q) (h4 : q ≤ 5) :
    Calls Tryd.prog 29 #[.slice A n d] w fun e w' => e = .returned (errOf (Mx.mcode 5 0 9972 m)) ∧ w = w' := by
  have hm : Mx.mcode 5 0 9972 m = Mx.rows 0 9972 (m.getD 0 []).length m := by
    unfold Mx.mcode
    rw [if_neg (by omega), if_neg (by omega)]
  rw [hm]
  obtain ⟨v, hv⟩ : ∃ v, v = Mx.rows 0 9972 (m.getD 0 []).length m := ⟨_, rfl⟩
  have hg0 : rowsGo 0 9972 m 0 := by unfold rowsGo; rw [List.drop_zero]
  have RNG := Lib.hid (fun (k : Nat) (hk : k < n) (hg : rowsGo 0 9972 m k) (h0 : Mx.rcode 0 9972 q (m.getD k []) ≠ 0) => show v = Mx.rcode 0 9972 q (m.getD k []) by
    unfold rowsGo at hg
    rw [hv, hg, Mx.rows_drop (by omega), hq, if_neg h0])
  have OKS := Lib.hid (fun (hg : rowsGo 0 9972 m n) => show v = 0 by
    unfold rowsGo at hg
    rw [hv, hg, Mx.rows_end (by omega)])
  have STP := Lib.hid (fun (k : Nat) (hk : k < n) (hg : rowsGo 0 9972 m k) (h0 : Mx.rcode 0 9972 q (m.getD k []) = 0) => rows_go (by omega) hg (by rw [hq]; exact h0))
  rw [← hv]
  obtain ⟨ad, A0, d0, rfl, _, hc0, _, hr0⟩ := ha 0 (by omega)
  rw [hq] at hc0
  rw [add_zero'] at hc0
  have HA := Lib.hid ha
  have HN := Lib.hid hn
  have G0 := Lib.hid hg0
  have e0 : ((n : Int) == 0) = false := by rw [beq_eq_false_iff_ne]; omega
  have e1 : ((q : Int) == 0) = false := by rw [beq_eq_false_iff_ne]; omega
  have e2 : ¬ (5 : Int) < n := by omega
  have e3 : ¬ (5 : Int) < q := by omega
  clear ha hn hg0 hm hv hq hr0
  go_enter Tryd.func29, Tryd.ntmps29
  go_wp2_with fail
  go_loop [30] (fun i => ∃ k : Nat, k ≤ n ∧ i = .int .i64 (k : Int) ∧ rowsGo 0 9972 m k) (fun i => n - (intOf i).toNat)
  case atStart => exact ⟨0, Nat.zero_le _, rfl, G0.out⟩
  case round =>
    obtain ⟨k, hk, rfl, hg⟩ := hrel
    have HG := Lib.hid hg
    clear hg
    by_cases hlt : k < n
    · obtain ⟨ad', A1, d1, ea, _, hc1, _, hr1⟩ := HA.out k (by have := HN.out; omega)
      obtain rfl := Option.some.inj ea
      have CR := Lib.hid (checkRow_any A1 (m.getD k []) _ d1 q w hr1 rfl (by omega))
      obtain ⟨p, hp⟩ : ∃ p, p = (m.getD k []).length := ⟨_, rfl⟩
      rw [← hp] at hc1 CR
      by_cases h0 : Mx.rcode 0 9972 q (m.getD k []) = 0
      · have ST := Lib.hid (STP.out k hlt HG.out h0)
        rw [h0] at CR
        clear hr1 hp h0
        go_wp2_with fail
        refine (CR.out).mono ?_; rintro e w' ⟨rfl, rfl⟩
        rw [errOf_zero]
        go_wp2_with fail
        go_round
        case rel => exact ⟨k + 1, by omega, by go_num, ST.out⟩
        case measure => simp [intOf]; omega
      · have E := Lib.hid (RNG.out k hlt HG.out h0)
        rw [errOf_ne _ h0] at CR
        have E2 := Lib.hid (show errOf v = .iface 43 (.int .i64 ((Mx.rcode 0 9972 q (m.getD k []) : Nat) : Int)) by rw [E.out, errOf_ne _ h0])
        generalize Mx.rcode 0 9972 q (m.getD k []) = z at *
        clear hr1 hp h0
        go_wp2_with fail
        refine (CR.out).mono ?_; rintro e w' ⟨rfl, rfl⟩
        go_wp2_with fail
        go_ret
        exact ⟨by rw [E2.out]; rfl, rfl⟩
    · have E := Lib.hid (OKS.out (by have h : k = n := by omega
                                     rw [← h]; exact HG.out))
      go_wp2_with fail
      go_ret
      exact ⟨by rw [E.out]; rfl, rfl⟩

set_option maxHeartbeats 800000 in
theorem Check_any (A : Option Addr) (m : List (List Int)) (n d : Nat) (w : World) (ha : LiesM w A m) (hn : m.length = n) :
    Calls Tryd.prog 29 #[.slice A n d] w fun e w' => e = .returned (errOf (Mx.mcode 5 0 9972 m)) ∧ w = w' := by
  by_cases h1 : n = 0
  · have hm : Mx.mcode 5 0 9972 m = 5 := by unfold Mx.mcode; rw [if_pos (by omega)]
    rw [hm]
    subst h1
    clear hm ha hn
    go_enter Tryd.func29, Tryd.ntmps29
    go_wp2
    go_ret
    exact ⟨rfl, rfl⟩
  obtain ⟨ad, A0, d0, rfl, _, hc0, _, hr0⟩ := ha 0 (by omega)
  rw [add_zero'] at hc0
  obtain ⟨q, hq⟩ : ∃ q, q = (m.getD 0 []).length := ⟨_, rfl⟩
  rw [← hq] at hc0
  have e0 : ((n : Int) == 0) = false := by rw [beq_eq_false_iff_ne]; omega
  have hn0 : (0 : Int) < n := by omega
  by_cases h2 : q = 0
  · have hm : Mx.mcode 5 0 9972 m = 5 := by unfold Mx.mcode; rw [if_pos (by omega)]
    rw [hm]
    subst h2
    clear hm ha hn hr0 h1 hq
    go_enter Tryd.func29, Tryd.ntmps29
    go_wp2
    go_ret
    exact ⟨rfl, rfl⟩
  have e1 : ((q : Int) == 0) = false := by rw [beq_eq_false_iff_ne]; omega
  by_cases h3 : 5 < n
  · have hm : Mx.mcode 5 0 9972 m = 4 := by unfold Mx.mcode; rw [if_neg (by omega), if_pos (by omega)]
    rw [hm]
    have e3 : (5 : Int) < n := by omega
    clear hm ha hn hr0 h1 hq h2 h3
    go_enter Tryd.func29, Tryd.ntmps29
    go_wp2
    go_ret
    exact ⟨rfl, rfl⟩
  by_cases h4 : 5 < q
  · have hm : Mx.mcode 5 0 9972 m = 4 := by unfold Mx.mcode; rw [if_neg (by omega), if_pos (by omega)]
    rw [hm]
    have e3 : ¬ (5 : Int) < n := by omega
    have e4 : (5 : Int) < q := by omega
    clear hm ha hn hr0 h1 hq h2 h3 h4
    go_enter Tryd.func29, Tryd.ntmps29
    go_wp2
    go_ret
    exact ⟨rfl, rfl⟩
  exact Check_main (some ad) m n d q w ha hn hq.symm (by omega) (by omega) (by omega) (by omega)

/-- What is wrong with two matrices: the first one's fault, else the second one's. -/
def mcode2 (a b : List (List Int)) : Nat := if Mx.mcode 5 0 9972 a = 0 then Mx.mcode 5 0 9972 b else Mx.mcode 5 0 9972 a
theorem mcode2_zero {a b : List (List Int)} (h : mcode2 a b = 0) : Mx.mcode 5 0 9972 a = 0 ∧ Mx.mcode 5 0 9972 b = 0 := by
  unfold mcode2 at h
  by_cases h0 : Mx.mcode 5 0 9972 a = 0
  · rw [if_pos h0] at h; exact ⟨h0, h⟩
  · rw [if_neg h0] at h; exact absurd h h0
set_option maxHeartbeats 800000 in
theorem checkBoth_any (A B : Option Addr) (a b : List (List Int)) (n m c d : Nat) (w : World) (ha : LiesM w A a) (hb : LiesM w B b) (hn : a.length = n) (hm : b.length = m) :
    Calls Tryd.prog 22 #[.slice A n c, .slice B m d] w fun e w' => e = .returned (errOf (mcode2 a b)) ∧ w = w' := by
  have C1 := Lib.hid (Check_any A a n c w ha hn)
  have C2 := Lib.hid (Check_any B b m d w hb hm)
  unfold mcode2
  by_cases h0 : Mx.mcode 5 0 9972 a = 0
  · rw [if_pos h0]
    rw [h0] at C1
    generalize Mx.mcode 5 0 9972 b = z at *
    clear ha hb hn hm h0
    go_enter Tryd.func22, Tryd.ntmps22
    go_wp2_with fail
    refine (C1.out).mono ?_; rintro e w' ⟨rfl, rfl⟩
    rw [errOf_zero]
    go_wp2_with fail
    refine (C2.out).mono ?_; rintro e w' ⟨rfl, rfl⟩
    go_wp2_with fail
    go_ret
    exact ⟨rfl, rfl⟩
  · rw [if_neg h0]
    rw [errOf_ne _ h0] at C1 ⊢
    generalize Mx.mcode 5 0 9972 a = z at *
    clear ha hb hn hm h0 C2
    go_enter Tryd.func22, Tryd.ntmps22
    go_wp2_with fail
    refine (C1.out).mono ?_; rintro e w' ⟨rfl, rfl⟩
    go_wp2_with fail
    go_ret
    exact ⟨rfl, rfl⟩

end Go.Proofs.YtologiinkilooaaDoor

/- Plain facts for matrices in steps, as programs make them: clean, the next step, ranks, what can be undone. No program is named here. -/
namespace Go.Proofs.YtologiinkilooaaDoor
set_option linter.unusedVariables false

/-- The first row from row i on that is not nought at column j; or how many rows there are. -/
def First (r : Nat) (f : Nat → Nat → Fp.F) (i j k : Nat) : Prop := i ≤ k ∧ k ≤ r ∧ (∀ t, i ≤ t → t < k → f t j = 0) ∧ (k < r → f k j ≠ 0)
/-- A row is taken from another one, so many times. -/
def less (f : Nat → Nat → Fp.F) (a i : Nat) (x : Fp.F) : Nat → Nat → Fp.F := fun p q => if p = a then f a q - x * f i q else f p q

/-- Row i begins with 1 at column j, and is taken from all others. -/
def cln (f : Nat → Nat → Fp.F) (i j : Nat) : Nat → Nat → Fp.F := fun p q =>
  if p = i then f i q * Fp.inv (f i j) else f p q - f p j * (f i q * Fp.inv (f i j))
/-- The same, for the rows before row k alone. -/
def clnTo (f : Nat → Nat → Fp.F) (i j k : Nat) : Nat → Nat → Fp.F := fun p q =>
  if p = i then f i q * Fp.inv (f i j) else if p < k then f p q - f p j * (f i q * Fp.inv (f i j)) else f p q
theorem clnTo_same (f : Nat → Nat → Fp.F) (i j : Nat) (p q : Nat) : clnTo f i j i p q = clnTo f i j (i + 1) p q := by
  unfold clnTo
  by_cases e : p = i
  · rw [if_pos e, if_pos e]
  · rw [if_neg e, if_neg e]
    by_cases h : p < i
    · rw [if_pos h, if_pos (by omega)]
    · rw [if_neg h, if_neg (by omega)]
theorem clnTo_next (f : Nat → Nat → Fp.F) {i j k : Nat} (hk : k ≠ i) (p q : Nat) : less (clnTo f i j k) k i (f k j) p q = clnTo f i j (k + 1) p q := by
  unfold less clnTo
  by_cases e : p = k
  · subst e
    rw [if_pos rfl, if_neg hk, if_neg (by omega), if_pos rfl, if_neg hk, if_pos (by omega)]
  · rw [if_neg e]
    by_cases e2 : p = i
    · rw [if_pos e2, if_pos e2]
    · rw [if_neg e2, if_neg e2]
      by_cases h : p < k
      · rw [if_pos h, if_pos (by omega)]
      · rw [if_neg h, if_neg (by omega)]

/-- The columns of the pivots as numbers. -/
def cols (b : List Nat) : List Int := b.map fun (k : Nat) => (k : Int)
theorem len_cols (b : List Nat) : (cols b).length = b.length := by simp [cols]
theorem cols_snoc (b : List Nat) (k : Nat) : cols (b ++ [k]) = cols b ++ [(k : Int)] := by simp [cols]
theorem cols_inj {b d : List Nat} (h : b = d) : cols b = cols d := by rw [h]

/-- In steps as far as the first k columns, and the rows come of the rows of f. -/
structure Stair (r c k : Nat) (f : Nat → Nat → Fp.F) (b : List Nat) (g : Nat → Nat → Fp.F) : Prop where
  steps : Mx.Steps r k b g
  req : Mx.Req r c f g
theorem Stair.start (r c : Nat) (f : Nat → Nat → Fp.F) : Stair r c 0 f [] f := ⟨Mx.steps_none r f, Mx.Req.refl r c f⟩
theorem Stair.one {r c : Nat} {f : Nat → Nat → Fp.F} {b d : List Nat} {g h : Nat → Nat → Fp.F} (s : Stair r c c f b g) (t : Stair r c c f d h) : b = d ∧ Mx.Eqm r c g h :=
  s.steps.unique t.steps (s.req.symm.trans t.req)
/-- What comes of the two heads that changed places, and of clean. -/
theorem cln_nxt (g : Nat → Nat → Fp.F) (p a k : Nat) : cln (fun i => if i = a then g p else if i = p then g a else g i) p k = Mx.nxt p a k g := by
  have hp : (fun i => if i = a then g p else if i = p then g a else g i) p = g a := by
    by_cases e : p = a
    · subst e; simp
    · show (if p = a then g p else if p = p then g a else g p) = g a
      rw [if_neg e, if_pos rfl]
  funext i j
  unfold cln Mx.nxt
  rw [hp]
  by_cases e : i = p
  · rw [if_pos e, if_pos e]
  · rw [if_neg e, if_neg e]
    have hs : (if i = a then g p else if i = p then g a else g i) = g (Mx.swp p a i) := by
      unfold Mx.swp
      rw [if_neg e, if_neg e]
      by_cases e2 : i = a
      · rw [if_pos e2, if_pos e2]
      · rw [if_neg e2, if_neg e2]
    show (if i = a then g p else if i = p then g a else g i) j - (if i = a then g p else if i = p then g a else g i) k * _ = _
    rw [hs]
theorem Stair.next {r c k : Nat} {f : Nat → Nat → Fp.F} {b : List Nat} {g : Nat → Nat → Fp.F} (s : Stair r c k f b g) {a : Nat} (ha : b.length ≤ a) (hr : a < r) (h0 : g a k ≠ 0) : Stair r c (k + 1) f (b ++ [k]) (Mx.nxt b.length a k g) :=
  ⟨s.steps.next ha hr h0, s.req.trans (Mx.req_next g (by omega) hr h0)⟩
theorem Stair.skip {r c k : Nat} {f : Nat → Nat → Fp.F} {b : List Nat} {g : Nat → Nat → Fp.F} (s : Stair r c k f b g) (h0 : ∀ i, b.length ≤ i → i < r → g i k = 0) : Stair r c (k + 1) f b g :=
  ⟨s.steps.skip h0, s.req⟩

theorem Stair.thru {r c : Nat} {f : Nat → Nat → Fp.F} {b : List Nat} {g : Nat → Nat → Fp.F} (s : Stair r c c f b g) : Mx.Thru r c b.length f := s.steps.thru s.req
theorem Stair.sees {r c : Nat} {f : Nat → Nat → Fp.F} {b : List Nat} {g : Nat → Nat → Fp.F} (s : Stair r c c f b g) : Mx.Sees r c b.length f := s.steps.sees s.req
theorem Stair.le {r c k : Nat} {f : Nat → Nat → Fp.F} {b : List Nat} {g : Nat → Nat → Fp.F} (s : Stair r c k f b g) : b.length ≤ r := s.steps.le
theorem rank_flip {r c : Nat} {f : Nat → Nat → Fp.F} {b d : List Nat} {g h : Nat → Nat → Fp.F} (s : Stair r c c f b g) (t : Stair c r r (Mx.flip f) d h) : d.length = b.length :=
  Nat.le_antisymm (Mx.sees_thru t.sees s.thru.flip) (Mx.sees_thru s.sees.flip t.thru)
theorem rank_mul {r q c : Nat} {f f' : Nat → Nat → Fp.F} {b1 b2 b3 : List Nat} {g1 g2 g3 : Nat → Nat → Fp.F} (s1 : Stair r q q f b1 g1) (s2 : Stair q c c f' b2 g2) (s3 : Stair r c c (Mx.mul q f f') b3 g3) :
    b3.length ≤ b1.length ∧ b3.length ≤ b2.length ∧ b1.length + b2.length ≤ b3.length + q :=
  ⟨Mx.sees_thru s3.sees (s1.thru.mul_left f'), Mx.sees_thru s3.sees (s2.thru.mul_right f), Mx.sylvester s1.sees s2.sees s3.thru⟩
theorem rank_plus {r c : Nat} {f f' : Nat → Nat → Fp.F} {b1 b2 b3 : List Nat} {g1 g2 g3 : Nat → Nat → Fp.F} (s1 : Stair r c c f b1 g1) (s2 : Stair r c c f' b2 g2) (s3 : Stair r c c (Mx.plus f f') b3 g3) :
    b3.length ≤ b1.length + b2.length ∧ b1.length ≤ b3.length + b2.length ∧ b2.length ≤ b3.length + b1.length := by
  refine ⟨Mx.sees_thru s3.sees (s1.thru.plus s2.thru), Mx.sees_thru s1.sees ?_, Mx.sees_thru s2.sees ?_⟩
  · refine (s3.thru.plus s2.thru.neg).eqm fun i j _ _ => ?_
    show f i j = (f i j + f' i j) + -(f' i j)
    grind
  · refine (s3.thru.plus s1.thru.neg).eqm fun i j _ _ => ?_
    show f' i j = (f i j + f' i j) + -(f i j)
    grind

theorem Stair.again {r c : Nat} {f : Nat → Nat → Fp.F} {b d : List Nat} {g h : Nat → Nat → Fp.F} (s : Stair r c c f b g) (t : Stair r c c g d h) : b = d ∧ Mx.Eqm r c g h := s.steps.unique t.steps t.req
theorem Stair.undone {r c : Nat} {f k : Nat → Nat → Fp.F} {b d : List Nat} {g h : Nat → Nat → Fp.F} (s : Stair r c c f b g) (hk : Mx.dt r k ≠ 0) (t : Stair r c c (Mx.mul r k f) d h) : b = d ∧ Mx.Eqm r c g h := by
  obtain ⟨u, hu⟩ := Mx.undo hk
  exact s.steps.unique t.steps ((s.req.symm.trans (Mx.req_undo hu f)).trans t.req)
end Go.Proofs.YtologiinkilooaaDoor

/- Contracts of package gauss, first part: subtract, below, clone. -/
namespace Go.Proofs.YtologiinkilooaaDoor
open Go.ChangeShapes Go.WideShapes Go.ChangeAt Go.RowKit
set_option linter.unusedVariables false

theorem gval (a : Fp.F) : 0 ≤ (a.val : Int) ∧ (a.val : Int) ≤ 9972 := by have := a.isLt; omega
theorem val_less (a x b : Fp.F) : ((a.val : Int) + (9973 - (x.val : Int)) * (b.val : Int)) % 9973 = ((a - x * b).val : Int) := by
  rw [← Fp.ofInt_val, Fp.ofInt_add, Fp.ofInt_mul, Fp.ofInt_self, Fp.ofInt_self]
  have h : Fp.ofInt (9973 - (x.val : Int)) + x = 0 := by
    have h2 := Fp.ofInt_add (9973 - (x.val : Int)) (x.val : Int)
    rw [Fp.ofInt_self, show (9973 - (x.val : Int)) + (x.val : Int) = 9973 by omega] at h2
    rw [← h2]; decide
  generalize Fp.ofInt (9973 - (x.val : Int)) = y at *
  have : a + y * b = a - x * b := by
    have e : y = -x := by grind
    rw [e]; grind
  rw [this]
theorem less_bound (x b : Fp.F) : 0 ≤ (9973 - (x.val : Int)) * (b.val : Int) ∧ (9973 - (x.val : Int)) * (b.val : Int) ≤ 99450756 := by
  have h1 := gval x
  have h2 := gval b
  exact ⟨Int.mul_nonneg (by omega) h2.1, Int.mul_le_mul (show 9973 - (x.val : Int) ≤ 9973 by omega) h2.2 h2.1 (by decide)⟩
theorem less_mod (a x b : Fp.F) : ((a.val : Int) + (9973 - (x.val : Int)) * (b.val : Int)).tmod 9973 = ((a - x * b).val : Int) := by
  have h := less_bound x b
  rw [Int.tmod_eq_emod_of_nonneg (by have := gval a; omega), val_less]
theorem times_mod (a b : Fp.F) : ((a.val : Int) * (b.val : Int)).tmod 9973 = ((a * b).val : Int) := by
  have h1 := gval a
  have h2 := gval b
  rw [Int.tmod_eq_emod_of_nonneg (Int.mul_nonneg h1.1 h2.1), Fp.mul_val]
theorem times_bound (a b : Fp.F) : 0 ≤ (a.val : Int) * (b.val : Int) ∧ (a.val : Int) * (b.val : Int) ≤ 99440784 := by
  have h1 := gval a
  have h2 := gval b
  exact ⟨Int.mul_nonneg h1.1 h2.1, Int.mul_le_mul h1.2 h2.2 h2.1 (by decide)⟩



set_option maxRecDepth 100000 in
/-- copy(row, l): a row of noughts just made, and a slice of as many numbers. -/
theorem copy_row (w1 : World) (g n c : Nat) (A : Option Addr) (l : List Int) (ty : TypeId) (hr : Row w1 g (List.replicate n 0)) (hl : Lies w1 A l) (hn : n = l.length) :
    ∃ w2, (Builtin.copy_ #[24, 24] ty #[.slice (some ⟨g, 0, none⟩) n n, .slice A n c]).run Tryd.prog w1 = .ok (goInt n) w2 ∧
      Row w2 g l ∧ (∀ B w0, Below B w0 w1 → B ≤ g → Below B w0 w2) ∧ ∀ k, k ≠ g → w2.heap[k]? = w1.heap[k]? := by
  obtain ⟨i0, hi, hz0, hz1, hz2⟩ := info_parts int_info
  have hsz : (Tryd.prog.info? 3).map (·.size) = some 1 := by rw [hi]; simp [hz1]
  subst hn
  by_cases h0 : l.length = 0
  · obtain rfl : l = [] := List.eq_nil_of_length_eq_zero h0
    exact ⟨w1, run_copy_none w1 _ _ ty 3 _ A 0 0 0 c Tryd.underlying24 hsz (by simp), hr, fun _ _ h _ => h, fun _ _ => rfl⟩
  · obtain ⟨ad, rfl, _, _⟩ := hl 0 (by omega)
    have hlen : (ints l).length = l.length := by rw [ints, List.length_map]
    have hrun := run_copy_row (P := Tryd.prog) w1 24 24 ty 3 g 0 l.length l.length ad l.length c _ 3 (ints l) Tryd.underlying24 hsz hr (by rw [hlen]; exact (Nat.min_self _).symm)
      (fun j v hj => by
        have hj' : j < l.length := by
          rcases Nat.lt_or_ge j l.length with hlt | hge
          · exact hlt
          · rw [List.getElem?_eq_none (by simpa using hge)] at hj; cases hj
        obtain ⟨ad', e, _, hc⟩ := hl j hj'
        obtain rfl := Option.some.inj e
        rw [hc, ← hj]
        simp [hj']) (by rw [hlen]; simp) (fun v hv => by simp at hv; obtain ⟨y, _, rfl⟩ := hv; rfl)
    rw [hlen] at hrun
    refine ⟨_, hrun, ?_, fun B w0 hb hB => below_setRow hb hB _, fun k hk => setRow_other w1 g k _ hk⟩
    unfold Row
    rw [setRow_heap w1 g _ _ 3 (0, 0) hr]
    congr 3
    simp [ints]

end Go.Proofs.YtologiinkilooaaDoor

/- Contracts of package det, second part: the sum over all orders, Check, Of. -/
namespace Go.Proofs.YtologiinkilooaaDoor
open Go.ChangeShapes Go.WideShapes Go.ChangeAt Go.RowKit
set_option linter.unusedVariables false

/-- The order of the numbers, the sum and the matrix, each in a block of its own. -/
structure Vis (w0 w : World) (gm gs g n d : Nat) (A : Option Addr) (s : Nat → Nat) (z : Int) : Prop where
  mb : w.cell? ⟨gm, 0, none⟩ = some (.slice A n d)
  sb : w.cell? ⟨gs, 0, none⟩ = some (.int .i64 z)
  sf : w.frozen? ⟨gs, 0, none⟩ = false
  row : Row w g (Mx.row n fun i => (s i : Int))
  kp : Kp w0 w
  ms : gm ≠ gs
  mg : gm ≠ g
  sg : gs ≠ g
  bs : w0.heap.size ≤ gs
  bg : w0.heap.size ≤ g
theorem cell_far {w : World} {a b : Addr} {v : Value} (x : Value) (hc : w.cell? b = some v) (hne : a ≠ b) : (w.setCell a x).cell? b = some v := by
  rw [World.cell?_setCell_other (w := w) (v := x) (h := hne)]; exact hc
theorem Vis.keep {w0 w w' : World} {gm gs g n d : Nat} {A : Option Addr} {s : Nat → Nat} {z : Int} (h : Vis w0 w gm gs g n d A s z) (hk : Kp w w') : Vis w0 w' gm gs g n d A s z :=
  ⟨(hk.cell (p := ⟨gm, 0, none⟩) (cell_lt h.mb)).trans h.mb, (hk.cell (p := ⟨gs, 0, none⟩) (cell_lt h.sb)).trans h.sb, (hk.frozen (p := ⟨gs, 0, none⟩) (cell_lt h.sb)).trans h.sf, h.row.keep hk, h.kp.trans hk, h.ms, h.mg, h.sg, h.bs, h.bg⟩
theorem Vis.drewN {w0 w : World} {gm gs g n d : Nat} {A : Option Addr} {s : Nat → Nat} {z : Int} (h : Vis w0 w gm gs g n d A s z) (k : Nat) : Vis w0 (w.drewN k) gm gs g n d A s z := h.keep ((Kp.rfl' w).drewN k)
theorem Vis.ext {w0 w : World} {gm gs g n d : Nat} {A : Option Addr} {s t : Nat → Nat} {z : Int} (h : Vis w0 w gm gs g n d A s z) (e : ∀ i, i < n → s i = t i) : Vis w0 w gm gs g n d A t z :=
  ⟨h.mb, h.sb, h.sf, by rw [Mx.row_ext (h := fun i => (s i : Int)) fun i hi => by rw [e i hi]]; exact h.row, h.kp, h.ms, h.mg, h.sg, h.bs, h.bg⟩
theorem Vis.add {w0 w : World} {gm gs g n d : Nat} {A : Option Addr} {s : Nat → Nat} {z : Int} (h : Vis w0 w gm gs g n d A s z) (y : Int) : Vis w0 (w.setCell ⟨gs, 0, none⟩ (.int .i64 y)) gm gs g n d A s y :=
  ⟨cell_far _ h.mb (fun e => h.ms (by cases e; rfl)), World.cell?_setCell_same _ _ _ h.sb, by simp [h.sf], h.row.far (fun e => h.sg e.symm) _, h.kp.put (p := ⟨gs, 0, none⟩) h.bs _, h.ms, h.mg, h.sg, h.bs, h.bg⟩
theorem Vis.swap {w0 w : World} {gm gs g n d : Nat} {A : Option Addr} {s : Nat → Nat} {z : Int} (h : Vis w0 w gm gs g n d A s z) {a b : Nat} (ha : a < n) (hb : b < n) :
    Vis w0 ((w.setCell ⟨g, a, none⟩ (.int .i64 (s b : Int))).setCell ⟨g, b, none⟩ (.int .i64 (s a : Int))) gm gs g n d A (fun i => s (Mx.sw a b i)) z := by
  have other : ∀ (w : World) (k b x : Nat) (v : Value), g ≠ b → w.cell? ⟨b, 0, none⟩ = some v → (w.setCell ⟨g, k, none⟩ (.int .i64 (x : Int))).cell? ⟨b, 0, none⟩ = some v := fun w k b x v hne hc => by
    have hne' : (⟨g, k, none⟩ : Addr) ≠ ⟨b, 0, none⟩ := fun e => hne (by cases e; rfl)
    exact cell_far _ hc hne'
  refine ⟨other _ _ _ _ _ (fun e => h.mg e.symm) (other _ _ _ _ _ (fun e => h.mg e.symm) h.mb), other _ _ _ _ _ (fun e => h.sg e.symm) (other _ _ _ _ _ (fun e => h.sg e.symm) h.sb), by simp [h.sf], ?_,
    (h.kp.put (p := ⟨g, a, none⟩) h.bg _).put (p := ⟨g, b, none⟩) h.bg _, h.ms, h.mg, h.sg, h.bs, h.bg⟩
  have := (h.row.put a (s b : Int)).put b (s a : Int)
  rw [Mx.row_set, Mx.row_set] at this
  rw [show (Mx.row n fun i => ((s (Mx.sw a b i) : Nat) : Int)) = Mx.row n fun j => if j = b then (s a : Int) else if j = a then (s b : Int) else (s j : Int) from Mx.row_ext fun j _ => by
    by_cases h1 : j = b
    · rw [if_pos h1, h1, Mx.sw_right]
    · rw [if_neg h1]
      by_cases h2 : j = a
      · rw [if_pos h2, h2, Mx.sw_left]
      · rw [if_neg h2, Mx.sw_none h2 h1]]
  exact this
/-- What a visit leaves: the order as it was, so much more in the sum. -/
def VisEnd (w0 : World) (gm gs g n d : Nat) (A : Option Addr) (s : Nat → Nat) (z : Int) (x : Fp.F) (b : Nat) (e : Ending) (w' : World) : Prop :=
  e = .returned (.tuple #[]) ∧ ∃ z', Vis w0 w' gm gs g n d A s z' ∧ Fp.ofInt z' = Fp.ofInt z + x ∧ -(b : Int) ≤ z' ∧ z' ≤ (b : Int)

set_option maxRecDepth 100000 in
set_option maxHeartbeats 3200000 in
theorem visit_any (w0 : World) (gm gs g n d b : Nat) (A : Option Addr) (f : Nat → Nat → Fp.F) (s : Nat → Nat) (z : Int) (w : World) (ha : LiesM w0 A (Mx.matl n n f)) (hn : n ≤ 5) (hs : ∀ i, i < n → s i < n)
    (h : Vis w0 w gm gs g n d A s z) (h1 : -(b : Int) ≤ z) (h2 : z ≤ (b : Int)) (hb : b ≤ 1000000000000) :
    Calls Tryd.prog 33 #[.slice (some ⟨g, 0, none⟩) n n, .pointer (some ⟨gm, 0, none⟩), .pointer (some ⟨gs, 0, none⟩)] w fun e w' =>
      VisEnd w0 gm gs g n d A s z (Mx.part' n n f s) (b + 9972) e w' := by
  have SG := Lib.hid (Sign_any (some ⟨g, 0, none⟩) (Mx.row n fun i => (s i : Int)) n n w h.row.lies (Mx.len_row _ _) (by omega))
  rw [Mx.sp_congr (t := fun i => (s i : Int)) fun i hi => Mx.row_at n (fun i => (s i : Int)) i hi] at SG
  have HA := Lib.hid ha
  have HV := Lib.hid h
  have HS := Lib.hid hs
  have HP := Lib.hid (Mx.part_end n f s)
  obtain ⟨S, hS⟩ : ∃ S, S = Mx.sp n fun i => (s i : Int) := ⟨_, rfl⟩
  rw [← hS] at SG HP
  clear ha h hs hS
  go_enter Tryd.func33, Tryd.ntmps33
  go_wp2_with fail
  refine (SG.out).mono ?_; rintro e w1 ⟨x, rfl, hx, hk⟩
  have HX := Lib.hid hx
  have HV1 := Lib.hid (HV.out.keep hk)
  clear hx hk HV SG
  go_wp2_with fail
  go_loopw [4, 11] (fun p i wr => ∃ (k : Nat) (q : Int), k ≤ n ∧ i = .int .i64 (k : Int) ∧ p = .int .i64 q ∧ -9972 ≤ q ∧ q ≤ 9972 ∧ Fp.ofInt q = S * Mx.pr k (fun i => f i (s i)) ∧ w1 = wr) (fun _ i _ => n - (intOf i).toNat)
  case atStart =>
    have := HX.out.bound
    exact ⟨0, x, Nat.zero_le _, rfl, rfl, by omega, by omega, by rw [HX.out.2]; show S = S * 1; grind, rfl⟩
  case round =>
    obtain ⟨k, q, hk, rfl, rfl, hq1, hq2, hq, rfl⟩ := hrel
    have HQ := Lib.hid hq
    clear hq
    by_cases hlt : k < n
    · have y1 := HV1.out.row.cell k (by rw [Mx.len_row]; exact hlt)
      rw [Mx.row_at _ _ _ hlt] at y1
      have y2 := HV1.out.mb
      obtain ⟨ad, A0, d0, rfl, hl0, x1, _, l1⟩ := (HA.out.keep HV1.out.kp).row hlt
      obtain ⟨j, hj⟩ : ∃ j, j = s k := ⟨_, rfl⟩
      have hjn : j < n := by rw [hj]; exact HS.out k hlt
      rw [← hj] at y1
      obtain ⟨ad1, rfl, hl1, x2⟩ := l1.el hjn
      obtain ⟨v, hv⟩ : ∃ v, v = f k j := ⟨_, rfl⟩
      rw [← hv] at x2
      have hvb := gval v
      have HT := Lib.hid (show Fp.ofInt ((q * (v.val : Int)).tmod 9973) = S * Mx.pr (k + 1) (fun i => f i (s i)) by
        rw [Mx.tmod_F, Fp.ofInt_mul, Fp.ofInt_self, HQ.out]
        show _ = S * (Mx.pr k (fun i => f i (s i)) * f k (s k))
        rw [← hj, ← hv]; grind)
      have hmb : -99440784 ≤ q * (v.val : Int) ∧ q * (v.val : Int) ≤ 99440784 := by
        have a1 : q * (v.val : Int) ≤ 9972 * 9972 := by
          rcases Int.lt_or_le q 0 with hq0 | hq0
          · have := Int.mul_le_mul_of_nonneg_right (show q ≤ 0 by omega) hvb.1; omega
          · have := Int.mul_le_mul hq2 hvb.2 hvb.1 (by omega); omega
        have a2 : -q * (v.val : Int) ≤ 9972 * 9972 := by
          rcases Int.lt_or_le (-q) 0 with hq0 | hq0
          · have := Int.mul_le_mul_of_nonneg_right (show -q ≤ 0 by omega) hvb.1; omega
          · have := Int.mul_le_mul (show -q ≤ 9972 by omega) hvb.2 hvb.1 (by omega); omega
        rw [Int.neg_mul] at a2
        omega
      have HTB := Lib.hid (Mx.tmod_bound (q * (v.val : Int)))
      generalize (v.val : Int) = u at *
      have hwm : IntKind.i64.wrap (q * u) = q * u := IntWalk.i64_in _ (by omega)
      clear hj hv hmb
      go_wp2_with fail
      go_roundw
      case rel => exact ⟨k + 1, _, by omega, by go_num, rfl, HTB.out.1, HTB.out.2, HT.out, by first | rfl | trivial⟩
      case measure => simp [intOf]; omega
    · obtain rfl : k = n := by omega
      have y1 := HV1.out.sb
      have y2 := HV1.out.sf
      have hwa : IntKind.i64.wrap (z + q) = z + q := IntWalk.i64_in _ (by omega)
      have HV2 := Lib.hid (HV1.out.add (z + q))
      have HB := Lib.hid (show -((b + 9972 : Nat) : Int) ≤ z + q ∧ z + q ≤ ((b + 9972 : Nat) : Int) by omega)
      go_wp2_with fail
      go_end0
      exact ⟨rfl, z + q, HV2.out, by rw [Fp.ofInt_add, HQ.out, HP.out], HB.out.1, HB.out.2⟩

set_option maxRecDepth 100000 in
theorem orders_base (w0 : World) (gm gs g n d b : Nat) (A : Option Addr) (f : Nat → Nat → Fp.F) (s : Nat → Nat) (z : Int) (w : World) (ha : LiesM w0 A (Mx.matl n n f)) (hn : n ≤ 5) (hs : ∀ i, i < n → s i < n)
    (h : Vis w0 w gm gs g n d A s z) (h1 : -(b : Int) ≤ z) (h2 : z ≤ (b : Int)) (hb : b ≤ 1000000000000) :
    Calls Tryd.prog 31 #[.slice (some ⟨g, 0, none⟩) n n, .int .i64 (n : Int), .func (.func 33) #[] #[.pointer (some ⟨gm, 0, none⟩), .pointer (some ⟨gs, 0, none⟩)]] w fun e w' =>
      VisEnd w0 gm gs g n d A s z (Mx.part' n n f s) (b + 9972) e w' := by
  have C := Lib.hid (visit_any w0 gm gs g n d b A f s z w ha hn hs h h1 h2 hb)
  have e0 : ((n : Int) == (n : Int)) = true := by simp
  clear ha hs h h1 h2 hb
  go_enter Tryd.func31, Tryd.ntmps31
  go_wp2_with fail
  refine (C.out).mono ?_; rintro e w1 ⟨rfl, hv⟩
  have HV := Lib.hid hv
  clear hv
  go_wp2_with fail
  go_end0
  exact ⟨rfl, HV.out⟩

set_option maxRecDepth 100000 in
set_option maxHeartbeats 6400000 in
theorem orders_step (w0 : World) (gm gs g n d : Nat) (A : Option Addr) (f : Nat → Nat → Fp.F) (m k : Nat) (hkm : k + (m + 1) = n) (hn : n ≤ 5)
    (ih : ∀ (s : Nat → Nat) (z : Int) (b : Nat) (w : World), (∀ i, i < n → s i < n) → Vis w0 w gm gs g n d A s z → -(b : Int) ≤ z → z ≤ (b : Int) → b + 9972 * Mx.lv m ≤ 1000000000000 →
      Calls Tryd.prog 31 #[.slice (some ⟨g, 0, none⟩) n n, .int .i64 ((k + 1 : Nat) : Int), .func (.func 33) #[] #[.pointer (some ⟨gm, 0, none⟩), .pointer (some ⟨gs, 0, none⟩)]] w fun e w' =>
        VisEnd w0 gm gs g n d A s z (Mx.part' n (k + 1) f s) (b + 9972 * Mx.lv m) e w')
    (s : Nat → Nat) (z : Int) (b : Nat) (w : World) (hs : ∀ i, i < n → s i < n) (h : Vis w0 w gm gs g n d A s z) (h1 : -(b : Int) ≤ z) (h2 : z ≤ (b : Int)) (hb : b + 9972 * Mx.lv (m + 1) ≤ 1000000000000) :
    Calls Tryd.prog 31 #[.slice (some ⟨g, 0, none⟩) n n, .int .i64 (k : Int), .func (.func 33) #[] #[.pointer (some ⟨gm, 0, none⟩), .pointer (some ⟨gs, 0, none⟩)]] w fun e w' =>
      VisEnd w0 gm gs g n d A s z (Mx.part' n k f s) (b + 9972 * Mx.lv (m + 1)) e w' := by
  have IH := Lib.hid ih
  have HV := Lib.hid h
  have HS := Lib.hid hs
  have HP := Lib.hid (Mx.part_next (n := n) (k := k) f s (by omega))
  have HB := Lib.hid (show Mx.lv (m + 1) = 5 * Mx.lv m from rfl)
  have HZ := Lib.hid (And.intro h1 h2)
  have HM := Lib.hid (And.intro hkm hb)
  have hkn : k < n := by omega
  have e0 : ((k : Int) == (n : Int)) = false := by rw [beq_eq_false_iff_ne]; omega
  clear ih h hs h1 h2 hb hkm
  go_enter Tryd.func31, Tryd.ntmps31
  go_wp2_with fail
  go_loopw [6] (fun i wr => ∃ (j t : Nat) (y : Int), j = k + t ∧ j ≤ n ∧ i = .int .i64 (j : Int) ∧ Vis w0 wr gm gs g n d A s y ∧ Fp.ofInt y = Fp.ofInt z + Mx.sg t (fun t => Mx.part' n (k + 1) f fun i => s (Mx.sw k (k + t) i)) ∧ -((b + 9972 * (t * Mx.lv m) : Nat) : Int) ≤ y ∧ y ≤ ((b + 9972 * (t * Mx.lv m) : Nat) : Int)) (fun i _ => n - (intOf i).toNat)
  case atStart => exact ⟨k, 0, z, rfl, by omega, rfl, HV.out, by rw [Mx.sg_zero]; grind, by simpa using HZ.out.1, by simpa using HZ.out.2⟩
  case round =>
    clear HV
    obtain ⟨j, t, y, hjt, hjn, rfl, hv, hy, hy1, hy2⟩ := hrel
    have HJ := Lib.hid hjt
    have HV := Lib.hid hv
    have HY := Lib.hid hy
    have HYB := Lib.hid (And.intro hy1 hy2)
    clear hjt hv hy hy1 hy2
    by_cases hlt : j < n
    · have y1 := HV.out.row.cell k (by rw [Mx.len_row]; exact hkn)
      have y2 := HV.out.row.cell j (by rw [Mx.len_row]; exact hlt)
      have y3 := HV.out.row.free k
      have y4 := HV.out.row.free j
      rw [Mx.row_at _ _ _ hkn] at y1
      rw [Mx.row_at _ _ _ hlt] at y2
      have SW := HV.out.swap hkn hlt
      have y5 := (HV.out.row.put k (s j : Int)).free j
      have y6 : ∃ v, (wr.setCell ⟨g, k, none⟩ (.int .i64 (s j : Int))).cell? ⟨g, j, none⟩ = some v := ⟨_, (HV.out.row.put k (s j : Int)).cell j (by rw [List.length_set, Mx.len_row]; exact hlt)⟩
      obtain ⟨v6, y6⟩ := y6
      obtain ⟨sk, hsk⟩ : ∃ x : Int, x = (s k : Int) := ⟨_, rfl⟩
      obtain ⟨sj, hsj⟩ : ∃ x : Int, x = (s j : Int) := ⟨_, rfl⟩
      rw [← hsk] at y1 SW
      rw [← hsj] at y2 y5 y6 SW
      have hs' : ∀ i, i < n → (fun i => s (Mx.sw k j i)) i < n := fun i hi => HS.out _ (Mx.sw_lt hkn hlt hi)
      have hm : 9972 * (t * Mx.lv m) + 9972 * Mx.lv m = 9972 * ((t + 1) * Mx.lv m) := by rw [show (t + 1) * Mx.lv m = t * Mx.lv m + Mx.lv m from Nat.succ_mul _ _]; omega
      have hle : b + 9972 * ((t + 1) * Mx.lv m) ≤ 1000000000000 := by
        have a1 : (t + 1) * Mx.lv m ≤ 5 * Mx.lv m := Nat.mul_le_mul_right _ (by have := HJ.out; omega)
        have := HM.out.2
        rw [HB.out] at this
        omega
      have CALL := Lib.hid (fun w1 (hv : Vis w0 w1 gm gs g n d A (fun i => s (Mx.sw k j i)) y) => IH.out (fun i => s (Mx.sw k j i)) y (b + 9972 * (t * Mx.lv m)) w1 hs' hv HYB.out.1 HYB.out.2 (by omega))
      rw [show b + 9972 * (t * Mx.lv m) + 9972 * Mx.lv m = b + 9972 * ((t + 1) * Mx.lv m) by omega] at CALL
      have SWH := Lib.hid SW
      have hwk : IntKind.i64.wrap ((k : Int) + 1) = ((k + 1 : Nat) : Int) := by rw [IntWalk.i64_in _ (by omega)]; omega
      have HSK := Lib.hid (And.intro hsk hsj)
      clear SW hs' hm hle hsk hsj
      go_wp2_with fail
      go_region_law (fail)
      all_goals
        go_wp2_with fail
        refine (CALL.out _ (SWH.out.drewN 1)).mono ?_; rintro e w2 ⟨rfl, y', hv2, hy', hb1, hb2⟩
        have HV2 := Lib.hid hv2
        have HY2 := Lib.hid hy'
        have HB2 := Lib.hid (And.intro hb1 hb2)
        have x1 := hv2.row.cell k (by rw [Mx.len_row]; exact hkn)
        have x2 := hv2.row.cell j (by rw [Mx.len_row]; exact hlt)
        have x3 := hv2.row.free k
        have x4 := hv2.row.free j
        rw [Mx.row_at _ _ _ hkn, Mx.sw_left, ← HSK.out.2] at x1
        rw [Mx.row_at _ _ _ hlt, Mx.sw_right, ← HSK.out.1] at x2
        have x5 := (hv2.row.put k sk).free j
        have x6 : ∃ v, (w2.setCell ⟨g, k, none⟩ (.int .i64 sk)).cell? ⟨g, j, none⟩ = some v := ⟨_, (hv2.row.put k sk).cell j (by rw [List.length_set, Mx.len_row]; exact hlt)⟩
        obtain ⟨v7, x6⟩ := x6
        have SW2 := (hv2.swap hkn hlt).ext (t := s) fun i _ => by rw [Mx.sw_sw]
        simp only [Mx.sw_left, Mx.sw_right] at SW2
        rw [← HSK.out.1, ← HSK.out.2] at SW2
        have SWH2 := Lib.hid SW2
        clear SW2 hv2 hy' hb1 hb2 y1 y2 y3 y4 y5 y6
        go_wp2_with fail
        go_region_law (fail)
        all_goals
          go_wp2_with fail
          go_roundw
          case rel => exact ⟨j + 1, t + 1, y', by rw [HJ.out]; omega, by omega, by go_num, SWH2.out.drewN 1, by rw [HY2.out, HY.out, Mx.sg_succ, HJ.out]; grind, HB2.out.1, HB2.out.2⟩
          case measure => simp [intOf]; omega
    · have HE := Lib.hid (show t = m + 1 ∧ j = n by have := HJ.out; have := HM.out.1; omega)
      have HL := Lib.hid (show t * Mx.lv m ≤ Mx.lv (m + 1) by
        rw [HE.out.1, HB.out]; exact Nat.mul_le_mul_right _ (by have := HM.out.1; omega))
      go_wp2_with fail
      go_end0
      refine ⟨rfl, y, HV.out, ?_, ?_, ?_⟩
      · rw [HY.out, ← HP.out, show n - k = t by have := HJ.out; have := HE.out; omega]
      · have := HYB.out.1; have := HL.out; omega
      · have := HYB.out.2; have := HL.out; omega
theorem orders_any (w0 : World) (gm gs g n d : Nat) (A : Option Addr) (f : Nat → Nat → Fp.F) (ha : LiesM w0 A (Mx.matl n n f)) (hn : n ≤ 5) :
    ∀ (m k : Nat), k + m = n → ∀ (s : Nat → Nat) (z : Int) (b : Nat) (w : World), (∀ i, i < n → s i < n) → Vis w0 w gm gs g n d A s z → -(b : Int) ≤ z → z ≤ (b : Int) → b + 9972 * Mx.lv m ≤ 1000000000000 →
      Calls Tryd.prog 31 #[.slice (some ⟨g, 0, none⟩) n n, .int .i64 (k : Int), .func (.func 33) #[] #[.pointer (some ⟨gm, 0, none⟩), .pointer (some ⟨gs, 0, none⟩)]] w fun e w' =>
        VisEnd w0 gm gs g n d A s z (Mx.part' n k f s) (b + 9972 * Mx.lv m) e w'
  | 0, k, hkm => fun s z b w hs h h1 h2 hb => by
    obtain rfl : k = n := by omega
    exact orders_base w0 gm gs g k d b A f s z w ha hn hs h h1 h2 (by omega)
  | m + 1, k, hkm => fun s z b w hs h h1 h2 hb => orders_step w0 gm gs g n d A f m k hkm hn (orders_any w0 gm gs g n d A f ha hn m (k + 1) (by omega)) s z b w hs h h1 h2 hb

end Go.Proofs.YtologiinkilooaaDoor

/- Contracts of package det, third part: Check, Of. -/
namespace Go.Proofs.YtologiinkilooaaDoor
open Go.ChangeShapes Go.WideShapes Go.ChangeAt Go.RowKit
set_option linter.unusedVariables false

set_option maxRecDepth 100000 in
set_option maxHeartbeats 1600000 in
theorem DChk_any (A : Option Addr) (m : List (List Int)) (n d : Nat) (w : World) (ha : LiesM w A m) (hn : m.length = n) :
    Calls Tryd.prog 17 #[.slice A n d] w fun e w' => e = .returned (errOf (qcode 5 0 9972 m)) ∧ w = w' := by
  have CK := Lib.hid (Check_any A m n d w ha hn)
  by_cases h0 : Mx.mcode 5 0 9972 m = 0
  · have h0n : 0 < m.length := by
      rcases Nat.eq_zero_or_pos m.length with h | h
      · exfalso; unfold Mx.mcode at h0; rw [if_pos (.inl h)] at h0; cases h0
      · exact h
    obtain ⟨ad, A0, d0, rfl, hl0, hc0, _, _⟩ := ha 0 h0n
    rw [add_zero'] at hc0
    have EV := Lib.hid (show qcode 5 0 9972 m = if n ≠ (m.getD 0 []).length then 3 else 0 by
      unfold qcode
      rw [h0, hn]
      by_cases h : n ≠ (m.getD 0 []).length
      · rw [if_pos ⟨rfl, h⟩, if_pos h]
      · rw [if_neg (fun h' => h h'.2), if_neg h])
    rw [h0, errOf_zero] at CK
    have hn0 : 0 < n := by omega
    generalize (m.getD 0 []).length = q at *
    generalize qcode 5 0 9972 m = z at *
    clear ha h0 hn h0n
    by_cases hq : n = q
    · subst hq
      obtain rfl : z = 0 := by rw [EV.out, if_neg (fun h => h rfl)]
      rw [errOf_zero]
      have e1 : ((n : Int) != (n : Int)) = false := by simp
      clear EV
      go_enter Tryd.func17, Tryd.ntmps17
      go_wp2_with fail
      refine (CK.out).mono ?_; rintro e w' ⟨rfl, rfl⟩
      go_wp2_with fail
      go_ret
      exact ⟨rfl, rfl⟩
    · obtain rfl : z = 3 := by rw [EV.out, if_pos hq]
      rw [errOf_ne 3 (by omega)]
      have e1 : ((n : Int) != (q : Int)) = true := by rw [bne_iff_ne]; omega
      clear EV hq
      go_enter Tryd.func17, Tryd.ntmps17
      go_wp2_with fail
      refine (CK.out).mono ?_; rintro e w' ⟨rfl, rfl⟩
      go_wp2_with fail
      go_ret
      exact ⟨rfl, rfl⟩
  · rw [qcode_bad h0]
    rw [errOf_ne _ h0] at CK ⊢
    generalize Mx.mcode 5 0 9972 m = z at *
    clear ha hn h0
    go_enter Tryd.func17, Tryd.ntmps17
    go_wp2_with fail
    refine (CK.out).mono ?_; rintro e w' ⟨rfl, rfl⟩
    go_wp2_with fail
    go_ret
    exact ⟨rfl, rfl⟩

set_option maxRecDepth 100000 in
set_option maxHeartbeats 1600000 in
theorem Of_bad (A : Option Addr) (m : List (List Int)) (n d : Nat) (w : World) (ha : LiesM w A m) (hn : m.length = n) (h : qcode 5 0 9972 m ≠ 0) :
    Calls Tryd.prog 19 #[.slice A n d] w fun e w' => e = .returned (.tuple #[.int .i64 0, errOf (qcode 5 0 9972 m)]) ∧ Kp w w' := by
  have CK := Lib.hid (fun w (ha : LiesM w A m) => DChk_any A m n d w ha hn)
  rw [errOf_ne _ h] at CK ⊢
  have HA := Lib.hid ha
  generalize qcode 5 0 9972 m = z at *
  clear ha hn h
  go_enter Tryd.func19, Tryd.ntmps19
  go_wp2_with fail
  refine (CK.out _ (HA.out.keep ((Kp.rfl' w).new _))).mono ?_; rintro e w' ⟨rfl, rfl⟩
  go_wp2_with fail
  go_ret2
  exact ⟨rfl, (Kp.rfl' w).new _⟩

theorem orders_top (w0 : World) (gm gs g n d : Nat) (A : Option Addr) (f : Nat → Nat → Fp.F) (w : World) (ha : LiesM w0 A (Mx.matl n n f)) (hn : n ≤ 5) (h : Vis w0 w gm gs g n d A (fun i => i) 0) :
    Calls Tryd.prog 31 #[.slice (some ⟨g, 0, none⟩) n n, .int .i64 0, .func (.func 33) #[] #[.pointer (some ⟨gm, 0, none⟩), .pointer (some ⟨gs, 0, none⟩)]] w fun e w' =>
      VisEnd w0 gm gs g n d A (fun i => i) 0 (Mx.dt n f) 100000000 e w' := by
  have h1 := orders_any w0 gm gs g n d A f ha hn n 0 (by omega) (fun i => i) 0 0 w (fun i hi => hi) h (by omega) (by omega) (by have := Mx.lv_le hn; omega)
  rw [Mx.part_zero (n := n) f (s := fun i => i) fun j _ => rfl] at h1
  refine h1.mono ?_
  rintro e w' ⟨he, z, hv, hz, h2, h3⟩
  have := Mx.lv_le hn
  exact ⟨he, z, hv, hz, by omega, by omega⟩
theorem vis_made {w w2 : World} {n d : Nat} {T U : TypeId} (A : Option Addr)
    (hr : Row w2 ((w.alloc (.cells #[.slice A n d] T)).alloc (.cells #[.int .i64 0] U)).heap.size (Mx.row n fun i => (i : Int)))
    (hk : Kp ((w.alloc (.cells #[.slice A n d] T)).alloc (.cells #[.int .i64 0] U)) w2) : Vis w w2 w.heap.size (w.heap.size + 1) (w.heap.size + 2) n d A (fun i => i) 0 := by
  have e1 : (w.alloc (.cells #[.slice A n d] T)).heap.size = w.heap.size + 1 := by simp
  have e2 : ((w.alloc (.cells #[.slice A n d] T)).alloc (.cells #[.int .i64 0] U)).heap.size = w.heap.size + 2 := by simp
  have c1 : (w.alloc (.cells #[.slice A n d] T)).cell? ⟨w.heap.size, 0, none⟩ = some (.slice A n d) := (cell_made w #[.slice A n d] T w.heap.size 0 rfl).trans rfl
  have c2 : ((w.alloc (.cells #[.slice A n d] T)).alloc (.cells #[.int .i64 0] U)).cell? ⟨w.heap.size + 1, 0, none⟩ = some (.int .i64 0) := (cell_made (w.alloc (.cells #[.slice A n d] T)) #[.int .i64 0] U (w.heap.size + 1) 0 e1.symm).trans rfl
  have c3 : ((w.alloc (.cells #[.slice A n d] T)).alloc (.cells #[.int .i64 0] U)).cell? ⟨w.heap.size, 0, none⟩ = some (.slice A n d) :=
    (((Kp.rfl' (w.alloc (.cells #[.slice A n d] T))).new _).cell (p := ⟨w.heap.size, 0, none⟩) (by rw [e1]; exact Nat.lt_succ_self _)).trans c1
  have z2 : ((w.alloc (.cells #[.slice A n d] T)).alloc (.cells #[.int .i64 0] U)).frozen? ⟨w.heap.size + 1, 0, none⟩ = false := by simp
  rw [e2] at hr
  exact ⟨(hk.cell (p := ⟨w.heap.size, 0, none⟩) (cell_lt c3)).trans c3, (hk.cell (p := ⟨w.heap.size + 1, 0, none⟩) (cell_lt c2)).trans c2, (hk.frozen (p := ⟨w.heap.size + 1, 0, none⟩) (cell_lt c2)).trans z2, hr,
    (((Kp.rfl' w).new _).new _).trans hk, by omega, by omega, by omega, by omega, by omega⟩

set_option maxRecDepth 100000 in
set_option maxHeartbeats 1600000 in
theorem Of_ok (A : Option Addr) (f : Nat → Nat → Fp.F) (n d : Nat) (w : World) (ha : LiesM w A (Mx.matl n n f)) (h0 : 0 < n) (hn : n ≤ 5) :
    Calls Tryd.prog 19 #[.slice A n d] w fun e w' => e = .returned (.tuple #[.int .i64 ((Mx.dt n f).val : Int), .nilIface]) ∧ Kp w w' := by
  have CK := Lib.hid (fun w (ha : LiesM w A (Mx.matl n n f)) => DChk_any A (Mx.matl n n f) n d w ha (Mx.len_matl _ _ _))
  rw [qcode_matl f h0 hn, errOf_zero] at CK
  have HA := Lib.hid ha
  have AS := Lib.hid (fun w => ascending_any n w (by omega))
  have OR := Lib.hid (fun gm gs g w1 h => orders_top w gm gs g n d A f w1 ha hn h)
  generalize Mx.dt n f = dd at *
  clear ha
  go_enter Tryd.func19, Tryd.ntmps19
  go_wp2_with fail
  refine (CK.out _ (HA.out.keep ((Kp.rfl' w).new _))).mono ?_; rintro e w' ⟨rfl, rfl⟩
  go_wp2_with fail
  refine (AS.out _).mono ?_; rintro e w2 ⟨rfl, hr, hk⟩
  have VS := Lib.hid (vis_made (n := n) (d := d) A hr hk)
  clear hr hk
  go_wp2_with fail
  refine (OR.out _ _ _ _ VS.out).mono ?_; rintro e w3 ⟨rfl, z, hv, hz, hz1, hz2⟩
  have y1 := hv.sb
  have HK := Lib.hid hv.kp
  have hzb : -100000000 ≤ z ∧ z ≤ 100000000 := by omega
  have HR := Lib.hid (Mx.fit z)
  rw [hz, show Fp.ofInt 0 + dd = dd by rw [show Fp.ofInt 0 = 0 from rfl]; grind] at HR
  have hb := Mx.tmod_bound z
  have hwa : IntKind.i64.wrap (z.tmod 9973 + 9973) = z.tmod 9973 + 9973 := IntWalk.i64_in _ (by omega)
  clear hv hz hz1 hz2 hb
  go_wp2_with fail
  go_ret2
  refine ⟨?_, HK.out⟩
  show Ending.returned (.tuple #[.int .i64 ((z.tmod 9973 + 9973).tmod 9973), .nilIface]) = _
  rw [HR.out]

end Go.Proofs.YtologiinkilooaaDoor

/- Which numbers are left without one of them. No program is named here. -/
namespace Go.Proofs.YtologiinkilooaaDoor
set_option linter.unusedVariables false

/-- How many of the first t there are without number a. -/
def ct (a t : Nat) : Nat := if t ≤ a then t else t - 1
theorem ct_skip (a : Nat) : ct a (a + 1) = ct a a := by unfold ct; rw [if_neg (by omega), if_pos (Nat.le_refl _)]; omega
theorem ct_next {a t : Nat} (h : t ≠ a) : ct a (t + 1) = ct a t + 1 := by
  unfold ct
  by_cases h1 : t ≤ a
  · rw [if_pos h1, if_pos (by omega)]
  · rw [if_neg h1, if_neg (by omega)]; omega
theorem sk_ct {a t : Nat} (h : t ≠ a) : Mx.sk a (ct a t) = t := by
  unfold ct Mx.sk
  by_cases h1 : t ≤ a
  · rw [if_pos h1, if_pos (by omega)]
  · rw [if_neg h1, if_neg (by omega)]; omega
theorem ct_zero (a : Nat) : ct a 0 = 0 := by unfold ct; rw [if_pos (by omega)]
theorem ct_end {a p : Nat} (h : a ≤ p) : ct a (p + 1) = p := by unfold ct; rw [if_neg (by omega)]; omega
theorem ct_le {a p t : Nat} (h : a ≤ p) (ht : t ≤ p + 1) : ct a t ≤ p := by unfold ct; split <;> omega
/-- Without row a and column b. -/
def wo (f : Nat → Nat → Fp.F) (a b : Nat) : Nat → Nat → Fp.F := fun i j => f (Mx.sk a i) (Mx.sk b j)
/-- The first of them. -/
def kept (k m : Nat) : List Nat := (List.range (ct k m)).map (Mx.sk k)
theorem kept_zero (k : Nat) : kept k 0 = [] := by unfold kept; rw [ct_zero]; rfl
theorem kept_skip (k : Nat) : kept k (k + 1) = kept k k := by unfold kept; rw [ct_skip]
theorem kept_next {k m : Nat} (h : m ≠ k) : kept k (m + 1) = kept k m ++ [m] := by
  unfold kept
  rw [ct_next h, List.range_succ, List.map_append, List.map_singleton, sk_ct h]
theorem kept_len (k m : Nat) : (kept k m).length = ct k m := by simp [kept]
theorem ct_le_self (k m : Nat) : ct k m ≤ m := by unfold ct; split <;> omega
theorem ct_lt {k m n : Nat} (hm : m < n) (h : m ≠ k) : ct k m < n := by unfold ct; split <;> omega

end Go.Proofs.YtologiinkilooaaDoor

/- Plain facts on determinants over the field: by any row (Laplace), what is left without a row and a column (the adjugate), Cramer's rule. No program is named here. -/
namespace Go.Proofs.YtologiinkilooaaDoor.Mx
open Fp
set_option linter.unusedVariables false

/-- Row i first, the others behind it in their order. -/
def tau (i a : Nat) : Nat := if a = 0 then i else sk i (a - 1)
theorem tau_zero (a : Nat) : tau 0 a = a := by
  unfold tau
  by_cases h : a = 0
  · rw [if_pos h, h]
  · rw [if_neg h, sk_zero]; omega
theorem tau_next (i a : Nat) : tau (i + 1) a = sw i (i + 1) (tau i a) := by
  unfold tau
  by_cases h : a = 0
  · rw [if_pos h, if_pos h, sw_left]
  · rw [if_neg h, if_neg h]
    unfold sk
    rcases Nat.lt_trichotomy (a - 1) i with e | e | e
    · rw [if_pos (by omega), if_pos e, sw_none (by omega) (by omega)]
    · rw [if_pos (by omega), if_neg (by omega), e, sw_right]
    · rw [if_neg (by omega), if_neg (by omega), sw_none (by omega) (by omega)]
theorem dt_tau {n : Nat} : ∀ (i : Nat) (f : Nat → Nat → F), i < n → dt n (fun a b => f (tau i a) b) = sgn i * dt n f
  | 0, f, _ => by
    rw [show (fun a b => f (tau 0 a) b) = f from funext fun a => by rw [tau_zero]]
    show _ = (if 0 % 2 = 0 then (1 : F) else -1) * _
    rw [if_pos rfl]; grind
  | i + 1, f, h => by
    have h1 := dt_tau (n := n) i (fun r b => f (sw i (i + 1) r) b) (by omega)
    rw [show (fun a b => f (sw i (i + 1) (tau i a)) b) = fun a b => f (tau (i + 1) a) b from funext fun a => by rw [tau_next]] at h1
    rw [h1, dt_rswap f (a := i) (b := i + 1) (by omega) h (by omega), sgn_succ]
    grind
theorem sgn_two (i : Nat) : sgn i * sgn i = 1 := by unfold sgn; split <;> grind
theorem sgn_add (i j : Nat) : sgn (i + j) = sgn i * sgn j := by
  unfold sgn
  by_cases h1 : i % 2 = 0
  · by_cases h2 : j % 2 = 0
    · rw [if_pos h1, if_pos h2, if_pos (by omega)]; grind
    · rw [if_pos h1, if_neg h2, if_neg (by omega)]; grind
  · by_cases h2 : j % 2 = 0
    · rw [if_neg h1, if_pos h2, if_neg (by omega)]; grind
    · rw [if_neg h1, if_neg h2, if_pos (by omega)]; grind
/-- By row i. -/
theorem laplace (p i : Nat) (f : Nat → Nat → F) (hi : i ≤ p) : (sg (p + 1) fun j => sgn (i + j) * f i j * dt p (wo f i j)) = dt (p + 1) f := by
  have h1 := dt_tau i f (Nat.lt_succ_of_le hi)
  rw [dt_succ] at h1
  have h2 : (sg (p + 1) fun j => sgn j * f (tau i 0) j * dt p (del j fun a b => f (tau i a) b)) = sg (p + 1) fun j => sgn j * f i j * dt p (wo f i j) := sg_congr fun j _ => by
    rw [show (del j fun a b => f (tau i a) b) = wo f i j from funext fun a => funext fun b => by
      show f (tau i (a + 1)) (sk j b) = f (sk i a) (sk j b)
      unfold tau
      rw [if_neg (Nat.succ_ne_zero a), Nat.add_sub_cancel]]
    show sgn j * f (if 0 = 0 then i else _) j * _ = _
    rw [if_pos rfl]
  rw [h2] at h1
  have h3 : (sg (p + 1) fun j => sgn (i + j) * f i j * dt p (wo f i j)) = sgn i * sg (p + 1) fun j => sgn j * f i j * dt p (wo f i j) := by
    rw [← sg_times]
    exact sg_congr fun j _ => by rw [sgn_add]; grind
  rw [h3, h1]
  have := sgn_two i
  grind
theorem wo_setr (i j : Nat) (u : Nat → F) (f : Nat → Nat → F) : wo (setr i u f) i j = wo f i j := by
  funext a b
  show (if sk i a = i then u (sk j b) else f (sk i a) (sk j b)) = _
  rw [if_neg (sk_ne i a)]; rfl
/-- With the numbers of another row in its place. -/
theorem laplace_row (p i : Nat) (u : Nat → F) (f : Nat → Nat → F) (hi : i ≤ p) : (sg (p + 1) fun j => sgn (i + j) * u j * dt p (wo f i j)) = dt (p + 1) (setr i u f) := by
  rw [← laplace p i (setr i u f) hi]
  exact sg_congr fun j _ => by
    rw [wo_setr]
    show _ = _ * (if i = i then u j else f i j) * _
    rw [if_pos rfl]
theorem laplace_other (p i k : Nat) (f : Nat → Nat → F) (hi : i ≤ p) (hk : k ≤ p) : (sg (p + 1) fun j => sgn (i + j) * f k j * dt p (wo f i j)) = if i = k then dt (p + 1) f else 0 := by
  rw [laplace_row p i (fun j => f k j) f hi]
  by_cases h : i = k
  · rw [if_pos h, h, setr_self]
  · rw [if_neg h]
    refine dt_rows (r := i) (s := k) (by omega) (by omega) h fun j _ => ?_
    show (if i = i then f k j else f i j) = (if k = i then f k j else f k j)
    rw [if_pos rfl]; split <;> rfl

/-- The adjugate: at row i and column j what is left without row j and column i, with its sign. -/
def adj (p : Nat) (f : Nat → Nat → F) : Nat → Nat → F := fun i j => sgn (i + j) * dt p (wo f j i)
/-- So many times the one. -/
def scal (d : F) : Nat → Nat → F := fun i j => if i = j then d else 0
theorem adj_right (p : Nat) (f : Nat → Nat → F) : Eqm (p + 1) (p + 1) (mul (p + 1) f (adj p f)) (scal (dt (p + 1) f)) := fun k i hk hi => by
  show (sg (p + 1) fun j => f k j * (sgn (j + i) * dt p (wo f i j))) = if k = i then _ else 0
  have := laplace_other p i k f (by omega) (by omega)
  rw [show (sg (p + 1) fun j => f k j * (sgn (j + i) * dt p (wo f i j))) = sg (p + 1) fun j => sgn (i + j) * f k j * dt p (wo f i j) from sg_congr fun j _ => by rw [Nat.add_comm i j]; grind, this]
  by_cases h : i = k
  · rw [if_pos h, if_pos h.symm]
  · rw [if_neg h, if_neg fun h' => h h'.symm]
theorem adj_flip (p : Nat) (f : Nat → Nat → F) : adj p (flip f) = flip (adj p f) := by
  funext i j
  show sgn (i + j) * dt p (wo (flip f) j i) = sgn (j + i) * dt p (wo f i j)
  rw [Nat.add_comm i j, show wo (flip f) j i = flip (wo f i j) from rfl, dt_flip]
theorem adj_left (p : Nat) (f : Nat → Nat → F) : Eqm (p + 1) (p + 1) (mul (p + 1) (adj p f) f) (scal (dt (p + 1) f)) := fun k i hk hi => by
  have h := adj_right p (flip f) i k hi hk
  rw [adj_flip, dt_flip] at h
  have e : mul (p + 1) (flip f) (flip (adj p f)) i k = mul (p + 1) (adj p f) f k i := sg_congr fun x _ => by
    show f x i * adj p f k x = adj p f k x * f x i
    grind
  rw [← e, h]
  show (if i = k then _ else _) = if k = i then _ else _
  by_cases h : i = k
  · rw [if_pos h, if_pos h.symm]
  · rw [if_neg h, if_neg fun h' => h h'.symm]
theorem dt_scal (d : F) : ∀ n, dt n (scal d) = pw d n
  | 0 => rfl
  | n + 1 => by
    rw [dt_succ, sg_one (Nat.succ_pos n) fun i hi hne => by
      show sgn i * (if 0 = i then d else 0) * _ = 0
      rw [if_neg fun h => hne h.symm]; grind]
    have e : del 0 (scal d) = scal d := by
      funext a b
      show (if a + 1 = sk 0 b then d else 0) = if a = b then d else 0
      rw [sk_zero]
      by_cases h : a = b
      · rw [if_pos h, if_pos (by omega)]
      · rw [if_neg h, if_neg (by omega)]
    rw [e, dt_scal d n]
    show (if 0 % 2 = 0 then (1 : F) else -1) * (if 0 = 0 then d else 0) * pw d n = pw d (n + 1)
    rw [if_pos rfl, if_pos rfl, pw_succ]; grind
theorem adj_dt (p : Nat) (f : Nat → Nat → F) : dt (p + 1) (adj p f) = pw (dt (p + 1) f) p := by
  have h1 : dt (p + 1) f * dt (p + 1) (adj p f) = pw (dt (p + 1) f) (p + 1) := by rw [← dt_mul, dt_congr _ (adj_right p f), dt_scal]
  by_cases h : dt (p + 1) f = 0
  · rcases Nat.eq_zero_or_pos p with h0 | h0
    · subst h0
      rw [show pw (dt 1 f) 0 = 1 from rfl]
      show sg 1 (fun j => sgn j * (sgn (0 + j) * dt 0 (wo f j 0)) * dt 0 (del j (adj 0 f))) = 1
      rw [sg_succ, sg_zero]
      show 0 + sgn 0 * (sgn (0 + 0) * 1) * 1 = 1
      have := sgn_two 0
      grind
    · obtain ⟨q, rfl⟩ : ∃ q, p = q + 1 := ⟨p - 1, by omega⟩
      rw [h, pw_succ]
      refine (?_ : dt (q + 1 + 1) (adj (q + 1) f) = 0).trans (by grind)
      apply Classical.byContradiction
      intro hne
      obtain ⟨t, ht⟩ := undo hne
      -- all numbers are noughts then, and what is left too
      have hz : ∀ i j, i < q + 1 + 1 → j < q + 1 + 1 → f i j = 0 := fun i j hi hj => by
        have e1 := one_mul (q + 1 + 1) (q + 1 + 1) f i j hi hj
        have e2 := (ht.mul (Eqm.rfl' (q + 1 + 1) (q + 1 + 1) f)) i j hi hj
        rw [mul_assoc] at e2
        have e3 : mul (q + 1 + 1) t (mul (q + 1 + 1) (adj (q + 1) f) f) i j = 0 := by
          show sg (q + 1 + 1) (fun x => t i x * mul (q + 1 + 1) (adj (q + 1) f) f x j) = 0
          rw [sg_congr (g := fun _ => 0) fun x hx => by
            rw [adj_left (q + 1) f x j hx hj, h]
            show t i x * (if x = j then 0 else 0) = 0
            split <;> grind]
          exact sg_none _
        rw [← e1, ← e2, e3]
      apply hne
      refine dt_zrow (k := 0) (Nat.succ_pos _) fun j hj => ?_
      show sgn (0 + j) * dt (q + 1) (wo f j 0) = 0
      rw [dt_zrow (k := 0) (Nat.succ_pos _) fun b hb => show f (sk j 0) (sk 0 b) = 0 from hz _ _ (sk_lt (Nat.succ_pos q)) (sk_lt hb)]
      grind
  · rw [pw_succ] at h1
    refine mul_cancel h ?_
    rw [Fin.mul_comm (dt (p + 1) (adj p f))]
    exact h1
/-- Cramer: with what a row comes to in the place of column j. -/
theorem cramer (n j : Nat) (f : Nat → Nat → F) (x : Nat → F) (hj : j < n) : dt n (setc j (fun i => sg n fun t => f i t * x t) f) = dt n f * x j := by
  have h := dt_sum n j hj f x (fun t i => f i t) n
  rw [show (fun i => sg n fun t => x t * f i t) = fun i => sg n fun t => f i t * x t from funext fun i => sg_congr fun t _ => by grind] at h
  rw [h, sg_one hj fun t ht hne => by rw [dt_copy hj ht (fun e => hne e.symm)]; grind, setc_self]
  grind

end Go.Proofs.YtologiinkilooaaDoor.Mx

/- Plain facts on polynomials over the field: lists of coefficients, values, products, division, Euclid's steps. No program is named here. -/
namespace Go.Proofs.YtologiinkilooaaDoor.Pol
open Fp
set_option linter.unusedVariables false

/-- The value at x. -/
def ev : List F → F → F
  | [], _ => 0
  | a :: p, x => a + x * ev p x
/-- The coefficient of a power; 0 behind all. -/
def co (p : List F) (k : Nat) : F := p.getD k 0

theorem ev_nil (x : F) : ev [] x = 0 := rfl
theorem ev_cons (a : F) (p : List F) (x : F) : ev (a :: p) x = a + x * ev p x := rfl
theorem co_nil (k : Nat) : co [] k = 0 := by simp [co]
theorem co_zero (a : F) (p : List F) : co (a :: p) 0 = a := by simp [co]
theorem co_succ (a : F) (p : List F) (k : Nat) : co (a :: p) (k + 1) = co p k := by simp [co]
theorem co_out (p : List F) (k : Nat) (h : p.length ≤ k) : co p k = 0 := by simp [co, List.getElem?_eq_none h]

theorem pw_comm (x : F) (n : Nat) : pw x (n + 1) = x * pw x n := by rw [pw_succ, Fin.mul_comm]

theorem ev_append (p q : List F) (x : F) : ev (p ++ q) x = ev p x + pw x p.length * ev q x := by
  induction p with
  | nil => rw [List.nil_append, ev_nil, List.length_nil, pw_zero]; grind
  | cons a p ih => rw [List.cons_append, ev_cons, ev_cons, ih, List.length_cons, pw_comm]; grind

theorem ev_one (a x : F) : ev [a] x = a := by rw [ev_cons, ev_nil]; grind
theorem ev_snoc (p : List F) (a x : F) : ev (p ++ [a]) x = ev p x + a * pw x p.length := by rw [ev_append, ev_one]; grind

theorem ev_set (p : List F) (k : Nat) (c x : F) (h : k < p.length) : ev (p.set k c) x = ev p x + (c - co p k) * pw x k := by
  induction p generalizing k with
  | nil => simp at h
  | cons a p ih =>
    cases k with
    | zero => rw [List.set_cons_zero, ev_cons, ev_cons, co_zero, pw_zero]; grind
    | succ k =>
      rw [List.set_cons_succ, ev_cons, ev_cons, co_succ, ih k (by simpa using h), pw_comm]; grind

theorem ev_zeros (n : Nat) (x : F) : ev (List.replicate n 0) x = 0 := by
  induction n with
  | zero => rfl
  | succ n ih => rw [List.replicate_succ, ev_cons, ih]; grind

theorem ev_all_zero (p : List F) (h : ∀ b ∈ p, b = 0) (x : F) : ev p x = 0 := by
  induction p with
  | nil => rfl
  | cons a p ih => rw [ev_cons, ih fun b hb => h b (List.mem_cons_of_mem _ hb), h a (List.mem_cons_self ..)]; grind

theorem take_succ (p : List F) (k : Nat) (h : k < p.length) : p.take (k + 1) = p.take k ++ [co p k] := by
  rw [List.take_succ_eq_append_getElem h, co, List.getD_eq_getElem?_getD, List.getElem?_eq_getElem h]; rfl

theorem ev_take_succ (p : List F) (k : Nat) (h : k < p.length) (x : F) : ev (p.take (k + 1)) x = ev (p.take k) x + co p k * pw x k := by
  rw [take_succ p k h, ev_snoc, List.length_take, Nat.min_eq_left (Nat.le_of_lt h)]

/-- Behind a place: what Horner's rule keeps. -/
theorem drop_eq (p : List F) (k : Nat) (h : k < p.length) : p.drop k = co p k :: p.drop (k + 1) := by
  rw [List.drop_eq_getElem_cons h, co, List.getD_eq_getElem?_getD, List.getElem?_eq_getElem h]; rfl
theorem ev_drop (p : List F) (k : Nat) (h : k < p.length) (x : F) : ev (p.drop k) x = co p k + x * ev (p.drop (k + 1)) x := by
  rw [drop_eq p k h, ev_cons]

/-- A root can be taken out. -/
theorem synth (p : List F) (r : F) (hp : p ≠ []) :
    ∃ q : List F, q.length + 1 = p.length ∧ (∀ x, ev p x = (x - r) * ev q x + ev p r) ∧ ((∀ b ∈ q, b = 0) → ev p r = 0 → ∀ b ∈ p, b = 0) := by
  induction p with
  | nil => exact absurd rfl hp
  | cons a p ih =>
    by_cases h0 : p = []
    · subst h0
      refine ⟨[], rfl, fun x => by rw [ev_one, ev_one, ev_nil]; grind, fun _ h b hb => ?_⟩
      rw [ev_one] at h
      rw [List.mem_singleton] at hb
      rw [hb, h]
    · obtain ⟨q, h1, h2, h3⟩ := ih h0
      refine ⟨ev p r :: q, by simp [h1], fun x => ?_, fun hq hr b hb => ?_⟩
      · have := h2 x
        rw [ev_cons, ev_cons, ev_cons, this]; grind
      · have z := hq (ev p r) (List.mem_cons_self ..)
        have hq' : ∀ b ∈ p, b = 0 := h3 (fun b hb => hq b (List.mem_cons_of_mem _ hb)) z
        rw [ev_cons, z] at hr
        rcases List.mem_cons.1 hb with rfl | hb
        · grind
        · exact hq' b hb

theorem zero_below (n : Nat) : ∀ p : List F, p.length ≤ n → n ≤ 9973 → (∀ x : F, x.val < n → ev p x = 0) → ∀ b ∈ p, b = 0 := by
  induction n with
  | zero =>
    intro p hp _ _ b hb
    have : p = [] := List.eq_nil_of_length_eq_zero (by omega)
    subst this; simp at hb
  | succ n ih =>
    intro p hp hn hz
    by_cases h0 : p = []
    · subst h0; intro b hb; simp at hb
    · obtain ⟨q, h1, h2, h3⟩ := synth p ⟨n, by omega⟩ h0
      have hr : ev p ⟨n, by omega⟩ = 0 := hz _ (by show n < n + 1; omega)
      refine h3 (ih q (by omega) (by omega) fun x hx => ?_) hr
      have e := h2 x
      rw [hr, hz x (by omega)] at e
      have e2 : (x - ⟨n, by omega⟩) * ev q x = 0 := by grind
      rcases mul_zero_or e2 with h | h
      · exfalso
        have : x = ⟨n, by omega⟩ := by grind
        rw [this] at hx
        exact Nat.lt_irrefl _ hx
      · exact h

theorem zero_all (p : List F) (hp : p.length ≤ 9973) (hz : ∀ x, ev p x = 0) : ∀ b ∈ p, b = 0 :=
  zero_below 9973 p hp (Nat.le_refl _) fun x _ => hz x

/-- The sum. -/
def padd : List F → List F → List F
  | [], q => q
  | a :: p, [] => a :: p
  | a :: p, b :: q => (a + b) :: padd p q
theorem padd_nil (p : List F) : padd p [] = p := by cases p <;> rfl
theorem ev_padd (p q : List F) (x : F) : ev (padd p q) x = ev p x + ev q x := by
  induction p generalizing q with
  | nil => rw [padd, ev_nil]; grind
  | cons a p ih =>
    cases q with
    | nil => rw [padd, ev_nil]; grind
    | cons b q => rw [padd, ev_cons, ev_cons, ev_cons, ih]; grind
theorem co_padd (p q : List F) (k : Nat) : co (padd p q) k = co p k + co q k := by
  induction p generalizing q k with
  | nil => rw [padd, co_nil]; grind
  | cons a p ih =>
    cases q with
    | nil => rw [padd, co_nil]; grind
    | cons b q =>
      rw [padd]
      cases k with
      | zero => rw [co_zero, co_zero, co_zero]
      | succ k => rw [co_succ, co_succ, co_succ, ih]
theorem len_padd (p q : List F) : (padd p q).length = max p.length q.length := by
  induction p generalizing q with
  | nil => rw [padd, List.length_nil]; omega
  | cons a p ih =>
    cases q with
    | nil => rw [padd, List.length_nil]; omega
    | cons b q => rw [padd, List.length_cons, List.length_cons, List.length_cons, ih]; omega

/-- So many times. -/
def times (c : F) (p : List F) : List F := p.map fun a => c * a
theorem ev_times (c : F) (p : List F) (x : F) : ev (times c p) x = c * ev p x := by
  induction p with
  | nil => rw [times, List.map_nil, ev_nil]; grind
  | cons a p ih => rw [times] at *; rw [List.map_cons, ev_cons, ev_cons, ih]; grind
theorem co_times (c : F) (p : List F) (k : Nat) : co (times c p) k = c * co p k := by
  induction p generalizing k with
  | nil => rw [times, List.map_nil, co_nil]; grind
  | cons a p ih =>
    rw [times] at *
    rw [List.map_cons]
    cases k with
    | zero => rw [co_zero, co_zero]
    | succ k => rw [co_succ, co_succ, ih]
theorem len_times (c : F) (p : List F) : (times c p).length = p.length := by rw [times, List.length_map]

/-- The product. -/
def pmul : List F → List F → List F
  | [], _ => []
  | a :: p, q => padd (times a q) (0 :: pmul p q)
theorem ev_pmul (p q : List F) (x : F) : ev (pmul p q) x = ev p x * ev q x := by
  induction p with
  | nil => rw [pmul, ev_nil]; grind
  | cons a p ih => rw [pmul, ev_padd, ev_times, ev_cons, ev_cons, ih]; grind
theorem len_pmul (p q : List F) (hp : p ≠ []) (hq : q ≠ []) : (pmul p q).length + 1 = p.length + q.length := by
  have hq' := List.length_pos_iff.2 hq
  induction p with
  | nil => exact absurd rfl hp
  | cons a p ih =>
    rw [pmul, len_padd, len_times, List.length_cons, List.length_cons]
    by_cases h : p = []
    · subst h; rw [pmul, List.length_nil]; omega
    · have := ih h; omega
theorem co_pmul (p q : List F) (n m : Nat) (hp : p.length ≤ n + 1) (hq : q.length ≤ m + 1) : co (pmul p q) (n + m) = co p n * co q m := by
  induction p generalizing n with
  | nil => rw [pmul, co_nil, co_nil]; grind
  | cons a p ih =>
    rw [pmul, co_padd, co_times]
    cases n with
    | zero =>
      have : p = [] := by simpa using hp
      subst this
      rw [pmul, co_zero, Nat.zero_add]
      cases m with
      | zero => rw [co_zero]; grind
      | succ m => rw [co_succ, co_nil]; grind
    | succ n =>
      have e : n + 1 + m = (n + m) + 1 := by omega
      rw [e, co_succ, co_succ, ih n (by simpa using hp), co_out q (n + m + 1) (by omega)]; grind

/-- It has no nought at its end. -/
def Tr (p : List F) : Prop := p ≠ [] → co p (p.length - 1) ≠ 0
theorem tr_nil : Tr [] := fun h => absurd rfl h
theorem snoc_of (p : List F) (h : p ≠ []) : ∃ q, p = q ++ [co p (p.length - 1)] ∧ q.length + 1 = p.length := by
  have hl := List.length_pos_iff.2 h
  refine ⟨p.take (p.length - 1), ?_, by rw [List.length_take]; omega⟩
  have := take_succ p (p.length - 1) (by omega)
  rw [Nat.sub_add_cancel (by omega), List.take_length] at this
  exact this
theorem co_snoc (p : List F) (a : F) : co (p ++ [a]) p.length = a := by simp [co]
theorem tr_snoc (p : List F) (a : F) (h : a ≠ 0) : Tr (p ++ [a]) := by
  intro _
  rw [List.length_append, List.length_singleton, Nat.add_sub_cancel, co_snoc]
  exact h

/-- Without the noughts at its end. -/
def trim (p : List F) : List F := (p.reverse.dropWhile (fun a => a == 0)).reverse
theorem trim_nil : trim [] = [] := rfl
theorem trim_zero (p : List F) : trim (p ++ [0]) = trim p := by simp [trim]
theorem trim_not (p : List F) (a : F) (h : a ≠ 0) : trim (p ++ [a]) = p ++ [a] := by simp [trim, h]
theorem trim_tr (p : List F) (h : Tr p) : trim p = p := by
  by_cases h0 : p = []
  · subst h0; rfl
  · obtain ⟨q, e, _⟩ := snoc_of p h0
    have := h h0
    rw [e]
    exact trim_not _ _ this

theorem trim_ind (P : List F → Prop) (hz : ∀ p, P p → P (p ++ [0])) (hn : ∀ p, Tr p → P p) (p : List F) : P p := by
  obtain ⟨n, hl⟩ : ∃ n, n = p.length := ⟨_, rfl⟩
  induction n generalizing p with
  | zero =>
    have : p = [] := List.eq_nil_of_length_eq_zero hl.symm
    subst this; exact hn _ tr_nil
  | succ n ih =>
    have h0 : p ≠ [] := fun e => by subst e; simp at hl
    obtain ⟨q, e, hq⟩ := snoc_of p h0
    by_cases hc : co p (p.length - 1) = 0
    · rw [hc] at e
      rw [e]
      exact hz q (ih q (by omega))
    · exact hn p fun _ => hc

theorem tr_trim (p : List F) : Tr (trim p) := by
  refine trim_ind (fun p => Tr (trim p)) (fun p h => by rw [trim_zero]; exact h) (fun p h => by rw [trim_tr p h]; exact h) p
theorem ev_trim (p : List F) (x : F) : ev (trim p) x = ev p x := by
  refine trim_ind (fun p => ev (trim p) x = ev p x) (fun p h => by rw [trim_zero, h, ev_snoc]; grind) (fun p h => by rw [trim_tr p h]) p
theorem len_trim (p : List F) : (trim p).length ≤ p.length := by
  refine trim_ind (fun p => (trim p).length ≤ p.length) (fun p h => by rw [trim_zero, List.length_append]; omega) (fun p h => by rw [trim_tr p h]; exact Nat.le_refl _) p
theorem trim_take (p : List F) : trim p = p.take (trim p).length := by
  refine trim_ind (fun p => trim p = p.take (trim p).length) (fun p h => ?_) (fun p h => by rw [trim_tr p h, List.take_length]) p
  show trim (p ++ [0]) = (p ++ [0]).take (trim (p ++ [0])).length
  rw [trim_zero, List.take_append_of_le_length (len_trim p)]; exact h
theorem trim_trim (p : List F) : trim (trim p) = trim p := trim_tr _ (tr_trim p)
theorem trim_len_eq (p : List F) (h : (trim p).length = p.length) : trim p = p := by
  have := trim_take p
  rwa [h, List.take_length] at this
theorem co_trim (p : List F) (k : Nat) : co (trim p) k = co p k := by
  refine trim_ind (fun p => co (trim p) k = co p k) (fun p h => ?_) (fun p h => by rw [trim_tr p h]) p
  show co (trim (p ++ [0])) k = co (p ++ [0]) k
  rw [trim_zero, h]
  rcases Nat.lt_trichotomy k p.length with hk | hk | hk
  · simp [co, List.getElem?_append_left hk]
  · rw [hk, co_snoc, co_out p _ (Nat.le_refl _)]
  · rw [co_out p _ (by omega), co_out (p ++ [0]) _ (by simp; omega)]
/-- One that ends in noughts from place n on is no longer. -/
theorem trim_short (p : List F) (n : Nat) (h : ∀ k, n ≤ k → co p k = 0) : (trim p).length ≤ n := by
  refine Nat.le_of_not_lt fun hl => ?_
  have h0 : trim p ≠ [] := fun e => by rw [e] at hl; simp at hl
  refine tr_trim p h0 ?_
  rw [co_trim]
  exact h _ (by omega)

theorem list_ext (p q : List F) (h : p.length = q.length) (h2 : ∀ k, co p k = co q k) : p = q := by
  refine List.ext_getElem h fun k h3 h4 => ?_
  have := h2 k
  rwa [co, co, List.getD_eq_getElem?_getD, List.getD_eq_getElem?_getD, List.getElem?_eq_getElem h3, List.getElem?_eq_getElem h4] at this
theorem tr_le (p q : List F) (hp : Tr p) (h : ∀ k, co p k = co q k) : p.length ≤ q.length := by
  refine Nat.le_of_not_lt fun hl => ?_
  have h0 : p ≠ [] := fun e => by subst e; simp at hl
  refine hp h0 ?_
  rw [h, co_out q _ (by omega)]
theorem tr_ext (p q : List F) (hp : Tr p) (hq : Tr q) (h : ∀ k, co p k = co q k) : p = q :=
  list_ext p q (Nat.le_antisymm (tr_le p q hp h) (tr_le q p hq fun k => (h k).symm)) h

/-- Values say all of a short one. -/
theorem co_of_ev (p q : List F) (lp : p.length ≤ 9973) (lq : q.length ≤ 9973) (h : ∀ x, ev p x = ev q x) (k : Nat) : co p k = co q k := by
  have z := zero_all (padd p (times (-1) q)) (by rw [len_padd, len_times]; omega) fun x => by rw [ev_padd, ev_times, h]; grind
  have e : co (padd p (times (-1) q)) k = 0 := by
    rcases Nat.lt_or_ge k (padd p (times (-1) q)).length with hk | hk
    · rw [co, List.getD_eq_getElem?_getD, List.getElem?_eq_getElem hk]
      exact z _ (List.getElem_mem _)
    · exact co_out _ _ hk
  rw [co_padd, co_times] at e
  grind
theorem same (p q : List F) (hp : Tr p) (hq : Tr q) (lp : p.length ≤ 9973) (lq : q.length ≤ 9973) (h : ∀ x, ev p x = ev q x) : p = q :=
  tr_ext p q hp hq fun k => co_of_ev p q lp lq h k
theorem zero_of (p : List F) (hp : Tr p) (lp : p.length ≤ 9973) (h : ∀ x, ev p x = 0) : p = [] :=
  same p [] hp tr_nil lp (by simp) fun x => by rw [h, ev_nil]

theorem tr_pmul (p q : List F) (hp : Tr p) (hq : Tr q) (h2 : q ≠ []) : Tr (pmul p q) := by
  intro h0
  by_cases h1 : p = []
  · subst h1; exact absurd rfl h0
  have l1 := List.length_pos_iff.2 h1
  have l2 := List.length_pos_iff.2 h2
  have e := len_pmul p q h1 h2
  have : (pmul p q).length - 1 = (p.length - 1) + (q.length - 1) := by omega
  rw [this, co_pmul p q _ _ (by omega) (by omega)]
  intro h
  rcases mul_zero_or h with h | h
  · exact hp h1 h
  · exact hq h2 h
theorem pmul_ne (p q : List F) (h1 : p ≠ []) (h2 : q ≠ []) : pmul p q ≠ [] := by
  have l1 := List.length_pos_iff.2 h1
  have l2 := List.length_pos_iff.2 h2
  have e := len_pmul p q h1 h2
  intro h
  rw [h] at e
  simp at e
  omega
theorem len_pmul_le (p q : List F) : (pmul p q).length ≤ p.length + q.length := by
  induction p with
  | nil => rw [pmul]; simp
  | cons a p ih => rw [pmul, len_padd, len_times, List.length_cons, List.length_cons]; omega

/-- A product of a short one with something is something, and long. -/
theorem prod_len (p q r : List F) (hp : Tr p) (hq : Tr q) (hr : Tr r) (h1 : p ≠ []) (h2 : q ≠ []) (l : p.length + q.length ≤ 9973) (lr : r.length ≤ 9973)
    (h : ∀ x, ev r x = ev p x * ev q x) : r = pmul p q := by
  refine same r (pmul p q) hr (tr_pmul p q hp hq h2) lr (Nat.le_trans (len_pmul_le p q) l) fun x => ?_
  rw [h, ev_pmul]

/-- f is g so many times, and a rest with fewer factors. -/
structure Dv (f g q r : List F) : Prop where
  tq : Tr q
  tr : Tr r
  lt : r.length < g.length
  lq : q.length ≤ f.length
  eq : ∀ x, ev f x = ev g x * ev q x + ev r x

theorem Dv.one {f g q r q' r' : List F} (hg : Tr g) (lf : f.length ≤ 1000) (lg : g.length ≤ 1000) (h : Dv f g q r) (h' : Dv f g q' r') : q = q' ∧ r = r' := by
  have hlt := h.lt
  have hlt' := h'.lt
  have hlq := h.lq
  have hlq' := h'.lq
  have g0 : g ≠ [] := fun e => by rw [e] at hlt; simp at hlt
  have ed : ∀ x, ev g x * ev (trim (padd q (times (-1) q'))) x = ev (trim (padd r' (times (-1) r))) x := fun x => by
    have e1 := h.eq x
    have e2 := h'.eq x
    rw [ev_trim, ev_trim, ev_padd, ev_padd, ev_times, ev_times]; grind
  have ld := Nat.le_trans (len_trim (padd q (times (-1) q'))) (Nat.le_of_eq (len_padd _ _))
  have le := Nat.le_trans (len_trim (padd r' (times (-1) r))) (Nat.le_of_eq (len_padd _ _))
  rw [len_times] at ld le
  have d0 : trim (padd q (times (-1) q')) = [] := by
    refine Classical.byContradiction fun d0 => ?_
    have e := prod_len g _ (trim (padd r' (times (-1) r))) hg (tr_trim _) (tr_trim _) g0 d0 (by omega) (by omega) fun x => (ed x).symm
    have := len_pmul g _ g0 d0
    rw [← e] at this
    have := List.length_pos_iff.2 d0
    omega
  have eq : ∀ x, ev q x = ev q' x := fun x => by
    have : ev (trim (padd q (times (-1) q'))) x = 0 := by rw [d0]; rfl
    rw [ev_trim, ev_padd, ev_times] at this; grind
  refine ⟨same q q' h.tq h'.tq (by omega) (by omega) eq, same r r' h.tr h'.tr (by omega) (by omega) fun x => ?_⟩
  have e1 := h.eq x
  have e2 := h'.eq x
  rw [eq] at e1
  grind

/-- Lengths in a division. -/
theorem Dv.len {f g q r : List F} (hf : Tr f) (hg : Tr g) (lf : f.length ≤ 1000) (lg : g.length ≤ 1000) (h : Dv f g q r) :
    (q = [] ∧ f = r) ∨ (q ≠ [] ∧ q.length + g.length = f.length + 1) := by
  have hlt := h.lt
  have hlq := h.lq
  have g0 : g ≠ [] := fun e => by rw [e] at hlt; simp at hlt
  by_cases q0 : q = []
  · refine .inl ⟨q0, same f r hf h.tr (by omega) (by omega) fun x => ?_⟩
    rw [h.eq, q0, ev_nil]; grind
  · refine .inr ⟨q0, ?_⟩
    have l1 := List.length_pos_iff.2 q0
    have l := len_pmul g q g0 q0
    have t := tr_pmul g q hg h.tq q0
    have le : (padd (pmul g q) r).length = (pmul g q).length := by rw [len_padd]; omega
    have ts : Tr (padd (pmul g q) r) := fun _ => by
      rw [le, co_padd, co_out r _ (by omega)]
      have := t (pmul_ne g q g0 q0)
      grind
    have := same f _ hf ts (by omega) (by omega) fun x => by rw [h.eq, ev_padd, ev_pmul]
    rw [this, le]
    omega

/-- Of a row that runs to places that may be nought, the shortened one. -/
theorem Dv.of {f g q r : List F} (hf : Tr f) (hg : Tr g) (lf : f.length ≤ 1000) (lg : g.length ≤ 1000) (lq : q.length ≤ f.length) (hr : (trim r).length < g.length)
    (h : ∀ x, ev f x = ev g x * ev q x + ev r x) : Dv f g (trim q) (trim r) :=
  ⟨tr_trim q, tr_trim r, hr, Nat.le_trans (len_trim q) lq, fun x => by rw [h, ev_trim, ev_trim]⟩

/-- What is left by all that was made: quotient's row is as long as it may be. -/
theorem Dv.full {f g q r : List F} (hf : Tr f) (hg : Tr g) (lf : f.length ≤ 1000) (lg : g.length ≤ 1000) (g0 : g ≠ []) (lq : q.length = f.length - (g.length - 1)) (hr : (trim r).length < g.length)
    (h : ∀ x, ev f x = ev g x * ev q x + ev r x) : Dv f g q (trim r) := by
  have l1 := List.length_pos_iff.2 g0
  have d := Dv.of (q := q) hf hg lf lg (by omega) hr h
  have e : trim q = q := by
    refine trim_len_eq q ?_
    rcases d.len hf hg lf lg with ⟨e, e2⟩ | ⟨_, e⟩
    · have : q.length = 0 := by rw [lq]; rw [e2]; omega
      rw [e, this]; rfl
    · omega
  rwa [e] at d

end Go.Proofs.YtologiinkilooaaDoor.Pol

/- Plain facts on polynomials as rules for their factors: values, what the values tell, and determinants whose numbers go straight with x. No program is named here. -/
namespace Go.Proofs.YtologiinkilooaaDoor.Mx
open Fp
set_option linter.unusedVariables false

/-- The value at x, of the factors up to that of x to the power d. -/
def vx (d : Nat) (c : Nat → F) (x : F) : F := sg (d + 1) fun k => c k * pw x k
theorem vx_congr {d : Nat} {c e : Nat → F} (h : ∀ k, k ≤ d → c k = e k) (x : F) : vx d c x = vx d e x := sg_congr fun k hk => by rw [h k (by omega)]
theorem vx_zero (c : Nat → F) (x : F) : vx 0 c x = c 0 := by unfold vx; rw [sg_succ, sg_zero, pw_zero]; grind
theorem vx_succ (d : Nat) (c : Nat → F) (x : F) : vx (d + 1) c x = vx d c x + c (d + 1) * pw x (d + 1) := by unfold vx; rw [sg_succ]
theorem vx_add (d : Nat) (c e : Nat → F) (x : F) : vx d c x + vx d e x = vx d (fun k => c k + e k) x := by
  unfold vx; rw [← sg_add]; exact sg_congr fun k _ => by grind
theorem vx_times (d : Nat) (a : F) (c : Nat → F) (x : F) : a * vx d c x = vx d (fun k => a * c k) x := by
  unfold vx; rw [← sg_times]; exact sg_congr fun k _ => by grind
theorem vx_up {d m : Nat} (h : d ≤ m) (c : Nat → F) (x : F) : vx m (fun k => if k ≤ d then c k else 0) x = vx d c x := by
  unfold vx
  rw [sg_less (n := d + 1) (by omega) fun i h1 h2 => by dsimp only; rw [if_neg (by omega)]; grind]
  exact sg_congr fun k hk => by dsimp only; rw [if_pos (by omega)]
theorem sg_first (n : Nat) (f : Nat → F) : sg (n + 1) f = f 0 + sg n fun i => f (i + 1) := by
  rw [Nat.add_comm n 1, sg_split, sg_succ, sg_zero]
  have : (fun i => f (1 + i)) = fun i => f (i + 1) := funext fun i => by rw [Nat.add_comm]
  rw [this]; grind
/-- x times it. -/
theorem vx_shift (d : Nat) (c : Nat → F) (x : F) : x * vx d c x = vx (d + 1) (fun k => if k = 0 then 0 else c (k - 1)) x := by
  unfold vx
  rw [sg_first (d + 1)]
  dsimp only
  rw [if_pos rfl, ← sg_times]
  have : (sg (d + 1) fun k => x * (c k * pw x k)) = sg (d + 1) fun k => (if k + 1 = 0 then 0 else c (k + 1 - 1)) * pw x (k + 1) := sg_congr fun k _ => by
    rw [if_neg (by omega), pw_succ, show k + 1 - 1 = k from rfl]; grind
  rw [this]; grind
theorem vx_at_zero (d : Nat) (c : Nat → F) : vx d c 0 = c 0 := by
  unfold vx
  rw [sg_first, pw_zero]
  have : (sg d fun i => c (i + 1) * pw 0 (i + 1)) = 0 := by
    rw [sg_congr (g := fun _ => 0) fun i _ => by rw [pw_zero_base _ (by omega)]; grind, sg_none]
  rw [this]; grind
theorem vx_ev (d : Nat) (c : Nat → F) (x : F) : Pol.ev ((List.range (d + 1)).map c) x = vx d c x := by
  induction d with
  | zero => rw [vx_zero]; simp [List.range_succ, Pol.ev_one]
  | succ d ih => rw [List.range_succ, List.map_append, List.map_cons, List.map_nil, Pol.ev_snoc, ih, vx_succ]; simp
/-- The values tell the factors. -/
theorem vx_zeros {d : Nat} (hd : d < 9973) {c : Nat → F} (h : ∀ x, vx d c x = 0) : ∀ k, k ≤ d → c k = 0 := fun k hk =>
  Pol.zero_all ((List.range (d + 1)).map c) (by simp; omega) (fun x => by rw [vx_ev, h]) (c k) (List.mem_map.2 ⟨k, List.mem_range.2 (by omega), rfl⟩)
theorem vx_eq {d : Nat} (hd : d < 9973) {c e : Nat → F} (h : ∀ x, vx d c x = vx d e x) : ∀ k, k ≤ d → c k = e k := fun k hk => by
  have := vx_zeros (c := fun k => c k + (-1) * e k) hd (fun x => by rw [← vx_add, ← vx_times, h]; grind) k hk
  grind

/-- A rule that is a polynomial's. -/
def IsP (d : Nat) (g : F → F) : Prop := ∃ c : Nat → F, ∀ x, g x = vx d c x
theorem IsP.up {d m : Nat} {g : F → F} (h : IsP d g) (hm : d ≤ m) : IsP m g := by
  obtain ⟨c, hc⟩ := h
  exact ⟨_, fun x => by rw [hc, vx_up hm]⟩
theorem IsP.const (a : F) : IsP 0 fun _ => a := ⟨fun _ => a, fun x => by rw [vx_zero]⟩
theorem IsP.add {d : Nat} {g h : F → F} (hg : IsP d g) (hh : IsP d h) : IsP d fun x => g x + h x := by
  obtain ⟨c, hc⟩ := hg
  obtain ⟨e, he⟩ := hh
  exact ⟨_, fun x => by dsimp only; rw [hc, he, vx_add]⟩
theorem IsP.times {d : Nat} {g : F → F} (hg : IsP d g) (a : F) : IsP d fun x => a * g x := by
  obtain ⟨c, hc⟩ := hg
  exact ⟨_, fun x => by dsimp only; rw [hc, vx_times]⟩
theorem IsP.shift {d : Nat} {g : F → F} (hg : IsP d g) : IsP (d + 1) fun x => x * g x := by
  obtain ⟨c, hc⟩ := hg
  exact ⟨_, fun x => by dsimp only; rw [hc, vx_shift]⟩
theorem IsP.line {d : Nat} {g : F → F} (hg : IsP d g) (a b : F) : IsP (d + 1) fun x => (a + b * x) * g x := by
  obtain ⟨c, hc⟩ := ((hg.times a).up (Nat.le_succ d)).add ((hg.times b).shift)
  exact ⟨c, fun x => by rw [← hc]; dsimp only; grind⟩
theorem IsP.sum {d : Nat} {g : Nat → F → F} : ∀ n, (∀ i, i < n → IsP d (g i)) → IsP d fun x => sg n fun i => g i x
  | 0, _ => ⟨fun _ => 0, fun x => by unfold vx; rw [sg_congr (g := fun _ => 0) fun k _ => by grind, sg_none]; rfl⟩
  | n + 1, h => by
    obtain ⟨c, hc⟩ := (IsP.sum n fun i hi => h i (by omega)).add (h n (by omega))
    exact ⟨c, fun x => by rw [← hc]; dsimp only; rw [sg_succ]⟩
/-- A determinant whose numbers go straight with x. -/
theorem IsP.dt : ∀ (n : Nat) (a b : Nat → Nat → F), IsP n fun x => Mx.dt n fun i j => a i j + b i j * x
  | 0, _, _ => IsP.const 1
  | n + 1, a, b => by
    obtain ⟨c, hc⟩ := IsP.sum (d := n + 1) (g := fun j x => sgn j * (a 0 j + b 0 j * x) * Mx.dt n (del j fun i j => a i j + b i j * x)) (n + 1) fun j _ => by
      obtain ⟨c, hc⟩ := ((IsP.dt n (del j a) (del j b)).line (a 0 j) (b 0 j)).times (sgn j)
      exact ⟨c, fun x => by rw [← hc]; show _ = sgn j * ((a 0 j + b 0 j * x) * Mx.dt n (del j fun i j => a i j + b i j * x)); grind⟩
    exact ⟨c, fun x => by rw [← hc]; rfl⟩

end Go.Proofs.YtologiinkilooaaDoor.Mx

/- Plain facts on what takes a matrix to noughts: its factors are sums of determinants of some rows and the same columns (with signs), and its values the determinants of x times the one less the matrix. No program is named here. -/
namespace Go.Proofs.YtologiinkilooaaDoor.Mx
open Fp
set_option linter.unusedVariables false

theorem dt_neg : ∀ (n : Nat) (f : Nat → Nat → F), dt n (fun i j => -(f i j)) = sgn n * dt n f
  | 0, f => by show (1 : F) = sgn 0 * 1; rw [show sgn 0 = 1 from rfl]; grind
  | n + 1, f => by
    rw [dt_succ, dt_succ, ← sg_times]
    refine sg_congr fun j _ => ?_
    have h := dt_neg n (del j f)
    have e : del j (fun i j => -(f i j)) = fun a b => -(del j f a b) := rfl
    rw [e, h, sgn_succ]; grind
/-- Rows and columns of these numbers. -/
def sub (f : Nat → Nat → F) (h : List Nat) : Nat → Nat → F := fun i j => f (h.getD i 0) (h.getD j 0)
/-- The sum of the determinants of k rows and the same columns: those of h, and some of t behind them. -/
def prin (f : Nat → Nat → F) : List Nat → List Nat → Nat → F
  | h, [], k => if h.length = k then dt k (sub f h) else 0
  | h, r :: t, k => if h.length = k then dt k (sub f h) else prin f (h ++ [r]) t k + prin f h t k
theorem prin_is (f : Nat → Nat → F) (h t : List Nat) : prin f h t h.length = dt h.length (sub f h) := by
  cases t with
  | nil => unfold prin; rw [if_pos rfl]
  | cons r t => unfold prin; rw [if_pos rfl]
theorem prin_cons (f : Nat → Nat → F) (h : List Nat) (r : Nat) (t : List Nat) {k : Nat} (hk : h.length ≠ k) : prin f h (r :: t) k = prin f (h ++ [r]) t k + prin f h t k := by
  rw [prin, if_neg hk]
theorem prin_over (f : Nat → Nat → F) : ∀ (t h : List Nat) (k : Nat), k < h.length → prin f h t k = 0
  | [], h, k, hk => by unfold prin; rw [if_neg (by omega)]
  | r :: t, h, k, hk => by
    rw [prin_cons f h r t (by omega), prin_over f t (h ++ [r]) k (by simp; omega), prin_over f t h k hk]; grind
theorem prin_far (f : Nat → Nat → F) : ∀ (t h : List Nat) (k : Nat), h.length + t.length < k → prin f h t k = 0
  | [], h, k, hk => by unfold prin; rw [if_neg (by simp at hk; omega)]
  | r :: t, h, k, hk => by
    simp only [List.length_cons] at hk
    rw [prin_cons f h r t (by omega), prin_far f t (h ++ [r]) k (by simp; omega), prin_far f t h k (by omega)]; grind
theorem prin_all (f : Nat → Nat → F) : ∀ (t h : List Nat), prin f h t (h.length + t.length) = dt (h.length + t.length) (sub f (h ++ t))
  | [], h => by rw [List.append_nil]; exact prin_is f h []
  | r :: t, h => by
    simp only [List.length_cons]
    have := prin_all f t (h ++ [r])
    simp only [List.length_append, List.length_cons, List.length_nil, List.append_assoc, List.singleton_append] at this
    rw [prin_cons f h r t (by omega), prin_far f t h _ (by omega), show h.length + (t.length + 1) = h.length + (0 + 1) + t.length by omega, this]; grind
theorem prin_one (f : Nat → Nat → F) : ∀ t : List Nat, prin f [] t 1 = (t.map fun r => f r r).foldr (· + ·) 0
  | [] => by unfold prin; rw [if_neg (by simp)]; rfl
  | r :: t => by
    rw [prin_cons f [] r t (by simp), prin_one f t]
    have := prin_is f [r] t
    simp only [List.length_cons, List.length_nil] at this
    rw [List.nil_append, this]
    have e : dt (0 + 1) (sub f [r]) = f r r := by
      rw [dt_succ, sg_succ, sg_zero]
      show 0 + sgn 0 * f r r * 1 = f r r
      rw [show sgn 0 = 1 from rfl]; grind
    rw [e]; rfl

/-- x in the middle behind the first rows, less the rows and columns of these numbers. -/
def chT (f : Nat → Nat → F) (x : F) (h t : List Nat) : Nat → Nat → F := fun a b => (if a = b ∧ h.length ≤ a then x else 0) - sub f (h ++ t) a b
/-- Its factors. -/
def chC (f : Nat → Nat → F) (h t : List Nat) (j : Nat) : F := sgn (h.length + t.length - j) * prin f h t (h.length + t.length - j)
theorem getD_skip (h : List Nat) (r : Nat) (t : List Nat) (a : Nat) : (h ++ r :: t).getD (sk h.length a) 0 = (h ++ t).getD a 0 := by
  unfold sk
  by_cases e : a < h.length
  · rw [if_pos e, List.getD_eq_getElem?_getD, List.getD_eq_getElem?_getD, List.getElem?_append_left e, List.getElem?_append_left e]
  · rw [if_neg e, List.getD_eq_getElem?_getD, List.getD_eq_getElem?_getD, List.getElem?_append_right (by omega), List.getElem?_append_right (by omega), show a + 1 - h.length = (a - h.length) + 1 by omega]; rfl
theorem chT_dt (f : Nat → Nat → F) (x : F) : ∀ (t h : List Nat), dt (h.length + t.length) (chT f x h t) = vx t.length (chC f h t) x
  | [], h => by
    show dt (h.length + 0) _ = vx 0 _ x
    rw [vx_zero, Nat.add_zero]
    have e : dt h.length (chT f x h []) = dt h.length (fun i j => -(sub f h i j)) := dt_congr _ fun a b ha hb => by
      unfold chT; rw [if_neg (by omega), List.append_nil]; grind
    rw [e, dt_neg]
    unfold chC
    show _ = sgn (h.length + 0 - 0) * prin f h [] (h.length + 0 - 0)
    rw [show h.length + 0 - 0 = h.length by omega, prin_is]
  | r :: t, h => by
    have h1 := chT_dt f x t h
    have h2 := chT_dt f x t (h ++ [r])
    have hl : (r :: t).length = t.length + 1 := rfl
    have hl2 : (h ++ [r]).length = h.length + 1 := by simp
    rw [hl2] at h2
    rw [hl]
    -- row h.length is x in its place, less a row
    have e0 : chT f x h (r :: t) = setr h.length (fun b => x * (if b = h.length then 1 else 0) + (-(sub f (h ++ r :: t) h.length b))) (chT f x h (r :: t)) := by
      funext a b
      unfold setr
      by_cases e : a = h.length
      · rw [if_pos e]
        unfold chT
        dsimp only
        by_cases e2 : b = h.length
        · rw [if_pos ⟨by omega, by omega⟩, if_pos e2, e]; grind
        · rw [if_neg (by omega), if_neg e2, e]; grind
      · rw [if_neg e]
    have hp : h.length < h.length + (t.length + 1) := by omega
    have s1 := dt_rlin (h.length + (t.length + 1)) h.length hp x 1 (fun b => if b = h.length then 1 else 0) (fun b => -(sub f (h ++ r :: t) h.length b)) (chT f x h (r :: t))
    have e1 : dt (h.length + (t.length + 1)) (setr h.length (fun b => if b = h.length then 1 else 0) (chT f x h (r :: t))) = vx t.length (chC f h t) x := by
      rw [← h1, show h.length + (t.length + 1) = (h.length + t.length) + 1 by omega, ← laplace_row (h.length + t.length) h.length _ _ (by omega),
        sg_one (k := h.length) (by omega) fun j _ hj => by rw [if_neg hj]; grind]
      rw [if_pos rfl, show sgn (h.length + h.length) = 1 by rw [sgn_add, sgn_two]]
      have : dt (h.length + t.length) (wo (chT f x h (r :: t)) h.length h.length) = dt (h.length + t.length) (chT f x h t) := dt_congr _ fun a b _ _ => by
        show chT f x h (r :: t) (sk h.length a) (sk h.length b) = _
        unfold chT sub
        rw [getD_skip, getD_skip]
        congr 1
        by_cases e : a = b ∧ h.length ≤ a
        · rw [if_pos e, if_pos ⟨by rw [e.1], by unfold sk; rw [if_neg (by omega)]; omega⟩]
        · rw [if_neg e, if_neg fun e3 => e ⟨sk_inj e3.1, by
            have := e3.2
            unfold sk at this
            split at this <;> omega⟩]
      rw [this]; grind
    have e2 : dt (h.length + (t.length + 1)) (setr h.length (fun b => -(sub f (h ++ r :: t) h.length b)) (chT f x h (r :: t))) = vx t.length (chC f (h ++ [r]) t) x := by
      rw [← h2, show h.length + (t.length + 1) = h.length + 1 + t.length by omega]
      refine dt_congr _ fun a b _ _ => ?_
      unfold setr chT
      rw [hl2, show h ++ [r] ++ t = h ++ r :: t by simp]
      by_cases e : a = h.length
      · rw [if_pos e, if_neg (by omega), e]; grind
      · rw [if_neg e]
        by_cases e4 : a = b ∧ h.length ≤ a
        · rw [if_pos e4, if_pos (by omega)]
        · rw [if_neg e4, if_neg (by omega)]
    have e3 : (fun b => x * (if b = h.length then 1 else 0) + 1 * (-(sub f (h ++ r :: t) h.length b))) = fun b => x * (if b = h.length then 1 else 0) + (-(sub f (h ++ r :: t) h.length b)) := by
      funext b; grind
    rw [e3, ← e0, e1, e2] at s1
    rw [s1, vx_shift, show (1 : F) * vx t.length (chC f (h ++ [r]) t) x = vx t.length (chC f (h ++ [r]) t) x by grind, ← vx_up (Nat.le_succ t.length) (chC f (h ++ [r]) t), vx_add]
    refine vx_congr (fun j hj => ?_) x
    unfold chC
    rw [hl, hl2]
    have hN : h.length + (t.length + 1) - j = h.length + 1 + t.length - j := by omega
    rw [hN]
    by_cases j0 : j = 0
    · subst j0
      rw [if_pos rfl, if_pos (Nat.zero_le _), prin_cons f h r t (by omega), prin_far f t h _ (by omega)]; grind
    · rw [if_neg j0, show h.length + t.length - (j - 1) = h.length + 1 + t.length - j by omega]
      by_cases j1 : j ≤ t.length
      · rw [if_pos j1, prin_cons f h r t (by omega)]; grind
      · rw [if_neg j1, show h.length + 1 + t.length - j = h.length by omega, prin_is, prin_is]; grind

/-- x times the one, less a matrix. -/
def chm (f : Nat → Nat → F) (x : F) : Nat → Nat → F := fun i j => (if i = j then x else 0) - f i j
/-- The factors of what takes a matrix to noughts. -/
def ch (n : Nat) (f : Nat → Nat → F) : Nat → F := chC f [] (List.range n)
theorem range_getD {n i : Nat} (h : i < n) : (List.range n).getD i 0 = i := by simp [h]
theorem ch_is (n : Nat) (f : Nat → Nat → F) (x : F) : dt n (chm f x) = vx n (ch n f) x := by
  have h := chT_dt f x (List.range n) []
  simp only [List.length_nil, List.length_range, Nat.zero_add] at h
  rw [ch, ← h]
  refine dt_congr n fun a b ha hb => ?_
  unfold chm chT sub
  rw [List.nil_append, range_getD ha, range_getD hb]
  congr 1
  by_cases e : a = b
  · rw [if_pos e, if_pos ⟨e, Nat.zero_le _⟩]
  · rw [if_neg e, if_neg fun h => e h.1]
theorem ch_one {n : Nat} (hn : n < 9973) {f g : Nat → Nat → F} (h : ∀ x, dt n (chm f x) = dt n (chm g x)) : ∀ k, k ≤ n → ch n f k = ch n g k :=
  vx_eq hn fun x => by rw [← ch_is, ← ch_is, h]
theorem ch_congr {n : Nat} (hn : n < 9973) {f g : Nat → Nat → F} (h : Eqm n n f g) : ∀ k, k ≤ n → ch n f k = ch n g k :=
  ch_one hn fun x => dt_congr n fun i j hi hj => by unfold chm; rw [h i j hi hj]
theorem ch_top (n : Nat) (f : Nat → Nat → F) : ch n f n = 1 := by
  unfold ch chC
  rw [List.length_range, show ([] : List Nat).length + n - n = 0 by simp, show sgn 0 = 1 from rfl]
  have := prin_is f [] (List.range n)
  rw [List.length_nil] at this
  rw [this]
  show (1 : F) * 1 = 1
  grind
theorem ch_low (n : Nat) (f : Nat → Nat → F) : ch n f 0 = sgn n * dt n f := by
  have h := ch_is n f 0
  rw [vx_at_zero] at h
  rw [← h, ← dt_neg]
  refine dt_congr n fun i j _ _ => ?_
  unfold chm
  by_cases e : i = j
  · rw [if_pos e]; grind
  · rw [if_neg e]; grind
theorem foldr_sg (g : Nat → F) : ∀ n, ((List.range n).map g).foldr (· + ·) 0 = sg n g
  | 0 => rfl
  | n + 1 => by
    have aux : ∀ (l : List F) (a : F), (l ++ [a]).foldr (· + ·) 0 = l.foldr (· + ·) 0 + a := fun l a => by
      induction l with
      | nil => show a + 0 = 0 + a; grind
      | cons b l ih => rw [List.cons_append, List.foldr_cons, ih, List.foldr_cons]; grind
    rw [List.range_succ, List.map_append, List.map_cons, List.map_nil, aux, foldr_sg g n, sg_succ]
theorem ch_mid (p : Nat) (f : Nat → Nat → F) : ch (p + 1) f p = -(sg (p + 1) fun i => f i i) := by
  unfold ch chC
  rw [List.length_range, show ([] : List Nat).length + (p + 1) - p = 1 by simp, show sgn 1 = -1 from rfl, prin_one, foldr_sg]; grind
theorem ch_flip {n : Nat} (hn : n < 9973) (f : Nat → Nat → F) : ∀ k, k ≤ n → ch n (flip f) k = ch n f k := ch_one hn fun x => by
  rw [← dt_flip n (chm f x)]
  refine dt_congr n fun i j _ _ => ?_
  show (if i = j then x else 0) - f j i = (if j = i then x else 0) - f j i
  by_cases e : i = j
  · rw [if_pos e, if_pos e.symm]
  · rw [if_neg e, if_neg fun h => e h.symm]

end Go.Proofs.YtologiinkilooaaDoor.Mx

/- Plain facts on polynomials, second part: rows that are changed cell by cell, Euclid's steps, the monic one, and the numbers as the program has them. -/
namespace Go.Proofs.YtologiinkilooaaDoor.Pol
open Fp
set_option linter.unusedVariables false

theorem co_set (p : List F) (k m : Nat) (a : F) (h : k < p.length) : co (p.set k a) m = if m = k then a else co p m := by
  unfold co
  rw [List.getD_eq_getElem?_getD, List.getD_eq_getElem?_getD, List.getElem?_set]
  by_cases e : k = m
  · subst e; simp [h]
  · rw [if_neg e, if_neg (fun h => e h.symm)]

theorem ev_take_more (p : List F) (k : Nat) (x : F) : ev (p.take (k + 1)) x = ev (p.take k) x + co p k * pw x k := by
  rcases Nat.lt_or_ge k p.length with h | h
  · exact ev_take_succ p k h x
  · rw [List.take_of_length_le h, List.take_of_length_le (by omega), co_out p k h]; grind

/-- To R from place i on c times the first j of g are added. -/
def addAt (R : List F) (c : F) (g : List F) (i : Nat) : Nat → List F
  | 0 => R
  | j + 1 => (addAt R c g i j).set (i + j) (co (addAt R c g i j) (i + j) + c * co g j)
theorem len_addAt (R : List F) (c : F) (g : List F) (i j : Nat) : (addAt R c g i j).length = R.length := by
  induction j with
  | zero => rfl
  | succ j ih => rw [addAt, List.length_set, ih]
theorem ev_addAt (R : List F) (c : F) (g : List F) (i j : Nat) (h : i + j ≤ R.length) (x : F) : ev (addAt R c g i j) x = ev R x + c * pw x i * ev (g.take j) x := by
  induction j with
  | zero => rw [addAt, List.take_zero, ev_nil]; grind
  | succ j ih => rw [addAt, ev_set _ _ _ _ (by rw [len_addAt]; omega), ih (by omega), ev_take_more, pw_add]; grind
theorem co_addAt_far (R : List F) (c : F) (g : List F) (i j k : Nat) (h : i + j ≤ R.length) (hk : i + j ≤ k) : co (addAt R c g i j) k = co R k := by
  induction j with
  | zero => rfl
  | succ j ih => rw [addAt, co_set _ _ _ _ (by rw [len_addAt]; omega), if_neg (by omega), ih (by omega) (by omega)]
theorem co_addAt_top (R : List F) (c : F) (g : List F) (i m : Nat) (h : i + m < R.length) : co (addAt R c g i (m + 1)) (i + m) = co R (i + m) + c * co g m := by
  rw [addAt, co_set _ _ _ _ (by rw [len_addAt]; exact h), if_pos rfl, co_addAt_far R c g i m _ (by omega) (Nat.le_refl _)]

/-- The rows of a product, one after another. -/
def mulRows (f g : List F) : Nat → List F
  | 0 => List.replicate (f.length + g.length) 0
  | i + 1 => addAt (mulRows f g i) (co f i) g i g.length
theorem len_mulRows (f g : List F) (i : Nat) : (mulRows f g i).length = f.length + g.length := by
  induction i with
  | zero => rw [mulRows, List.length_replicate]
  | succ i ih => rw [mulRows, len_addAt, ih]
theorem ev_mulRows (f g : List F) (i : Nat) (h : i ≤ f.length) (x : F) : ev (mulRows f g i) x = ev (f.take i) x * ev g x := by
  induction i with
  | zero => rw [mulRows, ev_zeros, List.take_zero, ev_nil]; grind
  | succ i ih => rw [mulRows, ev_addAt _ _ _ _ _ (by rw [len_mulRows]; omega), List.take_length, ih (by omega), ev_take_more]; grind

/-- The sum, without noughts at its end. -/
def add (f g : List F) : List F := trim (padd f g)
/-- The product, without noughts at its end. -/
def mul (f g : List F) : List F := trim (pmul f g)
theorem ev_add (f g : List F) (x : F) : ev (add f g) x = ev f x + ev g x := by rw [add, ev_trim, ev_padd]
theorem ev_mul (f g : List F) (x : F) : ev (mul f g) x = ev f x * ev g x := by rw [mul, ev_trim, ev_pmul]
theorem tr_add (f g : List F) : Tr (add f g) := tr_trim _
theorem tr_mul (f g : List F) : Tr (mul f g) := tr_trim _
theorem len_add (f g : List F) : (add f g).length ≤ max f.length g.length := Nat.le_trans (len_trim _) (Nat.le_of_eq (len_padd _ _))
theorem len_mul (f g : List F) : (mul f g).length ≤ f.length + g.length := Nat.le_trans (len_trim _) (len_pmul_le _ _)
theorem len_mul' (f g : List F) (h : f.length + g.length ≤ 9973) : (mul f g).length ≤ f.length + g.length - 1 := by
  by_cases h1 : f = []
  · subst h1; rw [mul, pmul, trim_nil]; simp
  · by_cases h2 : g = []
    · have : mul f g = [] := zero_of _ (tr_mul f g) (Nat.le_trans (len_mul f g) h) fun x => by rw [ev_mul, h2, ev_nil]; grind
      rw [this]; simp
    · have := len_pmul f g h1 h2
      have := len_trim (pmul f g)
      rw [mul]; omega
theorem is_add (f g r : List F) (lf : f.length ≤ 1000) (lg : g.length ≤ 1000) (lr : r.length ≤ 1000) (h : ∀ x, ev r x = ev f x + ev g x) : trim r = add f g := by
  have := len_add f g
  have := len_trim r
  exact same _ _ (tr_trim r) (tr_add f g) (by omega) (by omega) fun x => by rw [ev_trim, h, ev_add]
theorem is_mul (f g r : List F) (lf : f.length ≤ 1000) (lg : g.length ≤ 1000) (lr : r.length ≤ 2000) (h : ∀ x, ev r x = ev f x * ev g x) : trim r = mul f g := by
  have := len_mul f g
  have := len_trim r
  exact same _ _ (tr_trim r) (tr_mul f g) (by omega) (by omega) fun x => by rw [ev_trim, h, ev_mul]
theorem rows_mul (f g : List F) (lf : f.length ≤ 1000) (lg : g.length ≤ 1000) : trim (mulRows f g f.length) = mul f g :=
  is_mul f g _ lf lg (by rw [len_mulRows]; omega) fun x => by rw [ev_mulRows f g _ (Nat.le_refl _), List.take_length]
/-- The sum's row: f, noughts behind it, g added. -/
theorem row_add (f g : List F) (lf : f.length ≤ 1000) (lg : g.length ≤ 1000) :
    trim (addAt (f ++ List.replicate (max f.length g.length - f.length) 0) 1 g 0 g.length) = add f g :=
  is_add f g _ lf lg (by rw [len_addAt, List.length_append, List.length_replicate]; omega) fun x => by
    rw [ev_addAt _ _ _ _ _ (by rw [List.length_append, List.length_replicate]; omega), ev_append, ev_zeros, List.take_length, pw_zero]; grind

theorem mul_of (f g : List F) (lf : f.length ≤ 1000) (lg : g.length ≤ 1000) (h : trim g ≠ []) : mul f g = pmul (trim f) (trim g) := by
  have := len_mul f g
  have := len_trim f
  have := len_trim g
  have := len_pmul_le (trim f) (trim g)
  exact same _ _ (tr_mul f g) (tr_pmul _ _ (tr_trim f) (tr_trim g) h) (by omega) (by omega) fun x => by rw [ev_mul, ev_pmul, ev_trim, ev_trim]

/-- EUCLID's steps: from f and g they come to c. -/
inductive Gc : List F → List F → List F → Prop
  | done (f : List F) : Gc f [] f
  | step {f g q r c : List F} (d : Dv f g q r) (h : Gc g r c) : Gc f g c

theorem Dv.ne {f g q r : List F} (h : Dv f g q r) : g ≠ [] := fun e => by
  have := h.lt
  rw [e] at this; simp at this

theorem Gc.one {f g c : List F} (h : Gc f g c) : ∀ {c' : List F}, Tr g → f.length ≤ 1000 → g.length ≤ 1000 → Gc f g c' → c = c' := by
  induction h with
  | done f =>
    intro c' _ _ _ h'
    cases h' with
    | done => rfl
    | step d _ => exact absurd rfl d.ne
  | step d h ih =>
    intro c' hg lf lg h'
    cases h' with
    | done => exact absurd rfl d.ne
    | step d' h' =>
      obtain ⟨rfl, rfl⟩ := d.one hg lf lg d'
      have := d.lt
      exact ih d.tr lg (by omega) h'

theorem Gc.facts {f g c : List F} (h : Gc f g c) : Tr f → Tr g → f.length ≤ 1000 → g.length ≤ 1000 → Tr c ∧ c.length ≤ 1000 ∧ (c = [] ↔ f = [] ∧ g = []) ∧
    ∃ a b, Tr a ∧ Tr b ∧ a.length ≤ f.length ∧ b.length ≤ g.length ∧ (∀ x, ev f x = ev c x * ev a x) ∧ (∀ x, ev g x = ev c x * ev b x) := by
  induction h with
  | done f =>
    intro hf _ lf _
    refine ⟨hf, lf, ⟨fun h => ⟨h, rfl⟩, fun h => h.1⟩, ?_⟩
    by_cases h0 : f = []
    · subst h0
      exact ⟨[], [], tr_nil, tr_nil, Nat.le_refl _, Nat.le_refl _, fun x => by rw [ev_nil]; grind, fun x => by rw [ev_nil]; grind⟩
    · have := List.length_pos_iff.2 h0
      exact ⟨[1], [], fun _ => by simp [co], tr_nil, by simp; omega, Nat.le_refl _, fun x => by rw [ev_one]; grind, fun x => by rw [ev_nil]; grind⟩
  | @step f g q r c d h ih =>
    intro hf hg lf lg
    have hlt := d.lt
    have hlq := d.lq
    obtain ⟨tc, lc, hz, a, b, ta, tb, la, lb, ea, eb⟩ := ih hg d.tr lg (by omega)
    have c0 : c ≠ [] := fun e => d.ne (hz.1 e).1
    refine ⟨tc, lc, ⟨fun e => absurd e c0, fun e => absurd e.2 d.ne⟩, trim (padd (pmul a q) b), a, tr_trim _, ta, ?_, la, fun x => ?_, ea⟩
    · by_cases z : trim (padd (pmul a q) b) = []
      · rw [z]; simp
      · have e1 := len_trim (padd (pmul a q) b)
        rw [len_padd] at e1
        have e2 := len_pmul_le a q
        have e := prod_len c _ f tc (tr_trim _) hf c0 z (by omega) (by omega) fun x => by
          rw [ev_trim, ev_padd, ev_pmul, d.eq, ea, eb]; grind
        have l := len_pmul c _ c0 z
        rw [← e] at l
        have := List.length_pos_iff.2 c0
        omega
    · rw [ev_trim, ev_padd, ev_pmul, d.eq, ea, eb]; grind

theorem Dv.scale {f g q r h : List F} (d : Dv f g q r) (hh : Tr h) (h0 : h ≠ []) : Dv (pmul f h) (pmul g h) q (pmul r h) := by
  have g0 := d.ne
  have lg := len_pmul g h g0 h0
  have lh := List.length_pos_iff.2 h0
  have lgp := List.length_pos_iff.2 g0
  have hlt := d.lt
  have hlq := d.lq
  refine ⟨d.tq, tr_pmul r h d.tr hh h0, ?_, ?_, fun x => by rw [ev_pmul, ev_pmul, ev_pmul, d.eq]; grind⟩
  · by_cases r0 : r = []
    · rw [r0, pmul]; simp; omega
    · have := len_pmul r h r0 h0; omega
  · by_cases f0 : f = []
    · rw [f0] at hlq; simp at hlq; rw [hlq]; simp
    · have := len_pmul f h f0 h0; omega
theorem Gc.scale {f g c h : List F} (d : Gc f g c) (hh : Tr h) (h0 : h ≠ []) : Gc (pmul f h) (pmul g h) (pmul c h) := by
  induction d with
  | done f => exact .done _
  | step d _ ih => exact .step (d.scale hh h0) ih

theorem swap (a b i : F) (h : i * (a * b) = 1) : (i * b) * a = 1 := by rw [Fin.mul_assoc, Fin.mul_comm b, h]
theorem cancel (a b i : F) (h : i * b = 1) : a + -(a * i) * b = 0 := by
  have : (a * i) * b = a := by rw [Fin.mul_assoc, h, Fin.mul_one]
  have e : -(a * i) * b = -((a * i) * b) := by grind
  rw [e, this]; grind
/-- The greatest factor. -/
def top (p : List F) : F := co p (p.length - 1)
theorem top_ne {p : List F} (h : Tr p) (h0 : p ≠ []) : top p ≠ 0 := h h0
/-- Made monic. -/
def mon (p : List F) : List F := times (inv (top p)) p
theorem mon_nil : mon [] = [] := rfl
theorem len_mon (p : List F) : (mon p).length = p.length := len_times _ _
theorem mon_ne {p : List F} (h0 : p ≠ []) : mon p ≠ [] := fun e => h0 (List.eq_nil_of_length_eq_zero (by rw [← len_mon, e]; rfl))
theorem ev_mon (p : List F) (x : F) : ev (mon p) x = inv (top p) * ev p x := ev_times _ _ _
theorem top_mon {p : List F} (h : Tr p) (h0 : p ≠ []) : top (mon p) = 1 := by
  rw [top, len_mon, mon, co_times]
  exact inv_mul (top_ne h h0)
theorem tr_mon {p : List F} (h : Tr p) : Tr (mon p) := fun h1 => by
  have h0 : p ≠ [] := fun e => h1 (by rw [e]; rfl)
  have := top_mon h h0
  rw [top] at this
  rw [this]; exact one_ne
theorem inv_ne {a : F} (h : a ≠ 0) : inv a ≠ 0 := fun e => by
  have := inv_mul h
  rw [e] at this
  exact one_ne (by rw [← this]; grind)
theorem tr_times {c : F} {p : List F} (hc : c ≠ 0) (h : Tr p) : Tr (times c p) := fun h1 => by
  have h0 : p ≠ [] := fun e => h1 (by rw [e]; rfl)
  rw [len_times, co_times]
  intro e
  rcases mul_zero_or e with e | e
  · exact hc e
  · exact h h0 e

/-- What is divided by its greatest factor alone. -/
theorem mon_dv {p q r : List F} (h : Tr p) (h0 : p ≠ []) (lp : p.length ≤ 1000) (d : Dv p [top p] q r) : q = mon p := by
  have t := top_ne h h0
  have t1 : Tr [top p] := fun _ => t
  refine (d.one t1 lp (by simp) ⟨tr_mon h, tr_nil, by simp, by rw [len_mon]; exact Nat.le_refl _, fun x => ?_⟩).1
  rw [ev_one, ev_mon, ev_nil]
  have := mul_inv t
  grind

/-- c divides f, and so does it made monic. -/
theorem mon_divides {f c a : List F} (hc : Tr c) (h0 : c ≠ []) (ha : Tr a) (la : a.length ≤ f.length) (h : ∀ x, ev f x = ev c x * ev a x) : Dv f (mon c) (times (top c) a) [] := by
  have t := top_ne hc h0
  have := List.length_pos_iff.2 h0
  refine ⟨tr_times t ha, tr_nil, by rw [len_mon]; simpa using this, by rw [len_times]; exact la, fun x => ?_⟩
  rw [ev_mon, ev_times, ev_nil, h]
  have := inv_mul t
  grind

theorem top_pmul {p q : List F} (h1 : p ≠ []) (h2 : q ≠ []) : top (pmul p q) = top p * top q := by
  have l1 := List.length_pos_iff.2 h1
  have l2 := List.length_pos_iff.2 h2
  have e := len_pmul p q h1 h2
  rw [top, show (pmul p q).length - 1 = (p.length - 1) + (q.length - 1) by omega]
  exact co_pmul p q _ _ (by omega) (by omega)

/-- The monic divisor so many times, by the monic divisor of what is so many times: a number. -/
theorem mon_scale {c h : List F} (hc : Tr c) (hh : Tr h) (c0 : c ≠ []) (h0 : h ≠ []) : Dv (pmul (mon c) h) (mon (pmul c h)) [top h] [] := by
  have tc := top_ne hc c0
  have th := top_ne hh h0
  have l := List.length_pos_iff.2 (pmul_ne c h c0 h0)
  have l2 := List.length_pos_iff.2 (pmul_ne (mon c) h (mon_ne c0) h0)
  refine ⟨fun _ => th, tr_nil, by rw [len_mon]; simpa using l, by simp; omega, fun x => ?_⟩
  rw [ev_pmul, ev_mon, ev_mon, ev_pmul, ev_one, ev_nil, top_pmul c0 h0]
  have e1 := inv_mul tc
  have e2 := inv_mul th
  have e3 : inv (top c * top h) * (top c * top h) = 1 := inv_mul fun e => by
    rcases mul_zero_or e with e | e
    · exact tc e
    · exact th e
  have e4 : inv (top c * top h) * top h = inv (top c) := by
    have : (inv (top c * top h) * top h) * top c = inv (top c) * top c := by rw [e1]; exact swap _ _ _ e3
    exact mul_cancel tc this
  rw [← e4]; grind

/-- The same one, so many times and shifted, added: as the document's answer does it. -/
def shift (t : F) (up : Nat) (g : List F) : List F := List.replicate up 0 ++ times t g
theorem ev_shift (t : F) (up : Nat) (g : List F) (x : F) : ev (shift t up g) x = t * pw x up * ev g x := by
  rw [shift, ev_append, ev_zeros, ev_times, List.length_replicate]; grind
theorem len_shift (t : F) (up : Nat) (g : List F) : (shift t up g).length = up + g.length := by rw [shift, List.length_append, List.length_replicate, len_times]
theorem co_shift_low (t : F) (up : Nat) (g : List F) (k : Nat) (h : k < up) : co (shift t up g) k = 0 := by
  rw [shift, co, List.getD_eq_getElem?_getD, List.getElem?_append_left (by simpa using h)]
  simp [h]
theorem co_shift (t : F) (up : Nat) (g : List F) (k : Nat) (h : up ≤ k) : co (shift t up g) k = t * co g (k - up) := by
  rw [← co_times, shift, co, List.getD_eq_getElem?_getD, List.getElem?_append_right (by simpa using h), List.length_replicate, co, List.getD_eq_getElem?_getD]
def plus (f g : List F) (t : F) (up : Nat) : List F := trim (padd f (shift t up g))
theorem ev_plus (f g : List F) (t : F) (up : Nat) (x : F) : ev (plus f g t up) x = ev f x + t * pw x up * ev g x := by rw [plus, ev_trim, ev_padd, ev_shift]
theorem tr_plus (f g : List F) (t : F) (up : Nat) : Tr (plus f g t up) := tr_trim _
theorem len_plus (f g : List F) (t : F) (up : Nat) : (plus f g t up).length ≤ max f.length (up + g.length) := by
  have := len_trim (padd f (shift t up g))
  rw [len_padd, len_shift] at this
  exact this
/-- The row of the first k of a sum. -/
def plusRow (f g : List F) (t : F) (up : Nat) : Nat → List F
  | 0 => []
  | k + 1 => plusRow f g t up k ++ [co f k + co (shift t up g) k]
theorem len_plusRow (f g : List F) (t : F) (up k : Nat) : (plusRow f g t up k).length = k := by
  induction k with
  | zero => rfl
  | succ k ih => rw [plusRow, List.length_append, ih]; rfl
theorem ev_plusRow (f g : List F) (t : F) (up k : Nat) (x : F) : ev (plusRow f g t up k) x = ev (f.take k) x + ev ((shift t up g).take k) x := by
  induction k with
  | zero => rw [plusRow, List.take_zero, List.take_zero, ev_nil]; grind
  | succ k ih => rw [plusRow, ev_snoc, len_plusRow, ih, ev_take_more, ev_take_more]; grind
theorem row_plus (f g : List F) (t : F) (up k : Nat) (h1 : f.length ≤ k) (h2 : up + g.length ≤ k) (hk : k ≤ 1000) : trim (plusRow f g t up k) = plus f g t up := by
  have := len_trim (plusRow f g t up k)
  have e := len_plusRow f g t up k
  have := len_plus f g t up
  refine same _ _ (tr_trim _) (tr_plus f g t up) (by omega) (by omega) fun x => ?_
  rw [ev_trim, ev_plusRow, ev_plus, List.take_of_length_le h1, List.take_of_length_le (by rw [len_shift]; exact h2), ev_shift]

/-- One step of dividing takes the greatest factor away. -/
theorem plus_less (f g : List F) (hf : f ≠ []) (hg : Tr g) (g0 : g ≠ []) (hl : g.length ≤ f.length) :
    (plus f g (-(top f * inv (top g))) (f.length - g.length)).length < f.length := by
  have l1 := List.length_pos_iff.2 hf
  have l2 := List.length_pos_iff.2 g0
  have t := top_ne hg g0
  have : (plus f g (-(top f * inv (top g))) (f.length - g.length)).length ≤ f.length - 1 := trim_short _ _ fun k hk => by
    rw [co_padd, co_shift _ _ _ _ (by omega)]
    by_cases e : k = f.length - 1
    · have e2 : k - (f.length - g.length) = g.length - 1 := by omega
      have e3 : co f k = top f := by rw [e]; rfl
      have e4 : co g (g.length - 1) = top g := rfl
      rw [e2, e3, e4]
      exact cancel _ _ _ (inv_mul t)
    · rw [co_out f k (by omega), co_out g _ (by omega), Fin.mul_zero, Fin.add_zero]
  omega

/-- The numbers of a row as the program has them. -/
def vals (p : List F) : List Int := p.map fun a => (a.val : Int)
theorem len_vals (p : List F) : (vals p).length = p.length := List.length_map ..
theorem vals_at (p : List F) (k : Nat) : (vals p).getD k 0 = ((co p k).val : Int) := by
  unfold vals co
  rw [List.getD_eq_getElem?_getD, List.getD_eq_getElem?_getD, List.getElem?_map]
  cases p[k]? <;> rfl
theorem vals_set (p : List F) (k : Nat) (a : F) : vals (p.set k a) = (vals p).set k (a.val : Int) := List.map_set ..
theorem vals_take (p : List F) (k : Nat) : vals (p.take k) = (vals p).take k := List.map_take ..
theorem vals_append (p q : List F) : vals (p ++ q) = vals p ++ vals q := List.map_append ..
theorem vals_inj {p q : List F} (h : vals p = vals q) : p = q := by
  refine list_ext p q (by rw [← len_vals p, h, len_vals]) fun k => ?_
  have := vals_at p k
  rw [h, vals_at] at this
  exact (val_inj this).symm
theorem vals_zeros (n : Nat) : vals (List.replicate n 0) = List.replicate n 0 := List.map_replicate ..

/-- What is wrong with a row of numbers, as a number. -/
def code (l : List Int) : Nat := if 12 < l.length then 4 else if ∀ n ∈ l, 0 ≤ n ∧ n ≤ 9972 then 0 else 1
theorem code_zero {l : List Int} (h : code l = 0) : ∃ p : List F, l = vals p ∧ p.length ≤ 12 := by
  unfold code at h
  split at h
  · cases h
  · split at h
    · rename_i h1 h2
      refine ⟨l.map ofInt, ?_, by simpa using h1⟩
      unfold vals
      rw [List.map_map]
      conv => lhs; rw [← List.map_id l]
      exact List.map_congr_left fun n hn => (ofInt_of n (h2 n hn).1 (h2 n hn).2).symm
    · cases h
theorem code_vals (p : List F) (h : p.length ≤ 12) : code (vals p) = 0 := by
  unfold code
  rw [if_neg (by rw [len_vals]; omega), if_pos]
  intro n hn
  obtain ⟨a, _, rfl⟩ := List.mem_map.1 hn
  exact val_bound a
theorem code_some (l : List Int) : code l = 0 ∨ code l = 1 ∨ code l = 4 := by
  unfold code
  split
  · exact .inr (.inr rfl)
  · split
    · exact .inl rfl
    · exact .inr (.inl rfl)
theorem code_full {l : List Int} (h : 12 < l.length) : code l = 4 := by unfold code; rw [if_pos h]
theorem code_range {l : List Int} (h : ¬ 12 < l.length) {k : Nat} (hk : k < l.length) (hn : ¬ (0 ≤ l.getD k 0 ∧ l.getD k 0 ≤ 9972)) : code l = 1 := by
  unfold code
  rw [if_neg h, if_neg]
  intro f
  refine hn ?_
  rw [List.getD_eq_getElem?_getD, List.getElem?_eq_getElem hk]
  exact f _ (List.getElem_mem _)
theorem code_ok {l : List Int} (h : ¬ 12 < l.length) (hn : ∀ k, k < l.length → 0 ≤ l.getD k 0 ∧ l.getD k 0 ≤ 9972) : code l = 0 := by
  unfold code
  rw [if_neg h, if_pos]
  intro n hm
  obtain ⟨k, hk, rfl⟩ := List.mem_iff_getElem.1 hm
  have := hn k hk
  rwa [List.getD_eq_getElem?_getD, List.getElem?_eq_getElem hk] at this
theorem code_zero_iff (l : List Int) : code l = 0 ↔ l.length ≤ 12 ∧ ∀ k, k < l.length → 0 ≤ l.getD k 0 ∧ l.getD k 0 ≤ 9972 := by
  constructor
  · intro h
    obtain ⟨p, rfl, hp⟩ := code_zero h
    refine ⟨by rw [len_vals]; exact hp, fun k _ => ?_⟩
    rw [vals_at]; exact val_bound _
  · rintro ⟨h1, h2⟩
    exact code_ok (by omega) h2

/-- The error of two rows, as a number. -/
def code2 (l m : List Int) : Nat := if code l = 0 then code m else code l
theorem code2_zero {l m : List Int} (h : code2 l m = 0) : code l = 0 ∧ code m = 0 := by
  unfold code2 at h
  split at h
  · exact ⟨by assumption, h⟩
  · contradiction

/-- Sums and products as the program has them. -/
theorem val_madd (s a b : F) : ((s.val : Int) + (a.val : Int) * (b.val : Int)) % 9973 = ((s + a * b).val : Int) := by
  rw [add_val, mul_val, Int.add_emod_emod]
theorem val_msub (s t c : F) : ((s.val : Int) + (9973 - (t.val : Int)) * (c.val : Int)) % 9973 = ((s + -t * c).val : Int) := by
  have e : ofInt (9973 - (t.val : Int)) = -t := by
    have : ofInt (9973 - (t.val : Int)) + ofInt (t.val : Int) = 0 := by
      rw [← ofInt_add, show 9973 - (t.val : Int) + (t.val : Int) = 9973 by omega]; rfl
    rw [ofInt_self] at this; grind
  have h := ofInt_val ((s.val : Int) + (9973 - (t.val : Int)) * (c.val : Int))
  rw [ofInt_add, ofInt_mul, e, ofInt_self, ofInt_self] at h
  exact h.symm
theorem val_horner (v x a : F) : ((v.val : Int) * (x.val : Int) + (a.val : Int)) % 9973 = ((a + x * v).val : Int) := by
  rw [add_val, mul_val, Int.add_emod_emod]
  congr 1
  rw [Int.mul_comm (x.val : Int)]; omega

end Go.Proofs.YtologiinkilooaaDoor.Pol

/- Plain facts on polynomials through given points: there is one, divided differences make it, and so does Lagrange's sum. -/
namespace Go.Proofs.YtologiinkilooaaDoor.Pol
open Fp
set_option linter.unusedVariables false

/-- The first n points have different places. -/
def Apart (X : Nat → F) (n : Nat) : Prop := ∀ i j, i < j → j < n → X i ≠ X j
theorem Apart.le {X : Nat → F} {n m : Nat} (h : Apart X n) (hm : m ≤ n) : Apart X m := fun i j h1 h2 => h i j h1 (by omega)
theorem Apart.ne {X : Nat → F} {n i j : Nat} (h : Apart X n) (hi : i < n) (hj : j < n) (e : i ≠ j) : X i ≠ X j := by
  rcases Nat.lt_or_ge i j with l | l
  · exact h i j l hj
  · exact fun e2 => h j i (by omega) hi e2.symm
/-- p has at most n factors and goes through the first n points. -/
def Th (X Y : Nat → F) (n : Nat) (p : List F) : Prop := p.length ≤ n ∧ ∀ i, i < n → ev p (X i) = Y i

theorem sub_ne {a b : F} (h : a ≠ b) : a - b ≠ 0 := fun e => h (by grind)

theorem zero_dots (n : Nat) : ∀ (X : Nat → F) (p : List F), p.length ≤ n → Apart X n → (∀ i, i < n → ev p (X i) = 0) → ∀ b ∈ p, b = 0 := by
  induction n with
  | zero =>
    intro X p hp _ _ b hb
    have : p = [] := List.eq_nil_of_length_eq_zero (by omega)
    subst this; simp at hb
  | succ n ih =>
    intro X p hp hX hz
    by_cases h0 : p = []
    · subst h0; intro b hb; simp at hb
    · obtain ⟨q, h1, h2, h3⟩ := synth p (X n) h0
      have hr := hz n (by omega)
      refine h3 (ih X q (by omega) (hX.le (by omega)) fun i hi => ?_) hr
      have e := h2 (X i)
      rw [hr, hz i (by omega)] at e
      have e2 : (X i - X n) * ev q (X i) = 0 := by grind
      rcases mul_zero_or e2 with h | h
      · exact absurd h (sub_ne (hX i n hi (by omega)))
      · exact h

theorem co_mem_zero {p : List F} (h : ∀ b ∈ p, b = 0) (k : Nat) : co p k = 0 := by
  rcases Nat.lt_or_ge k p.length with l | l
  · have : co p k ∈ p := by
      unfold co; rw [List.getD_eq_getElem?_getD, List.getElem?_eq_getElem l]; exact List.getElem_mem l
    exact h _ this
  · exact co_out p k l

theorem Th.one {X Y : Nat → F} {n : Nat} {p q : List F} (hX : Apart X n) (hp : Th X Y n p) (hq : Th X Y n q) (k : Nat) : co p k = co q k := by
  have h := zero_dots n X (padd p (times (-1) q)) (by have h1 := hp.1; have h2 := hq.1; rw [len_padd, len_times]; omega) hX fun i hi => by
    rw [ev_padd, ev_times, hp.2 i hi, hq.2 i hi]; grind
  have := co_mem_zero h k
  rw [co_padd, co_times] at this
  grind
theorem ev_of_co {p q : List F} (h : ∀ k, co p k = co q k) (x : F) : ev p x = ev q x := by
  have e : trim p = trim q := tr_ext _ _ (tr_trim p) (tr_trim q) fun k => by rw [co_trim, co_trim, h]
  rw [← ev_trim p, e, ev_trim]
theorem Th.ev {X Y : Nat → F} {n : Nat} {p q : List F} (hX : Apart X n) (hp : Th X Y n p) (hq : Th X Y n q) (x : F) : Pol.ev p x = Pol.ev q x := ev_of_co (hp.one hX hq) x
theorem Th.same {X Y : Nat → F} {n : Nat} {p q : List F} (hX : Apart X n) (hp : Th X Y n p) (hq : Th X Y n q) (tp : Tr p) (tq : Tr q) : p = q := tr_ext _ _ tp tq (hp.one hX hq)
theorem Th.trim {X Y : Nat → F} {n : Nat} {p : List F} (hp : Th X Y n p) : Th X Y n (Pol.trim p) :=
  ⟨Nat.le_trans (len_trim p) hp.1, fun i hi => by rw [ev_trim]; exact hp.2 i hi⟩

/-- Divided differences: of the points j to j + k. -/
def dd (X Y : Nat → F) : Nat → Nat → F
  | 0, j => Y j
  | k + 1, j => (dd X Y k (j + 1) - dd X Y k j) * inv (X (j + k + 1) - X j)

theorem co_lin (a b : F) (p : List F) (k : Nat) : co (pmul [a, b] p) (k + 1) = a * co p (k + 1) + b * co p k := by
  simp only [pmul]
  rw [co_padd, co_times, co_succ, co_padd, co_times]
  have : co (0 :: []) k = (0 : F) := by cases k <;> simp [co]
  rw [this]; grind
theorem ev_lin (a b : F) (p : List F) (x : F) : Pol.ev (pmul [a, b] p) x = (a + b * x) * Pol.ev p x := by
  rw [ev_pmul, ev_cons, ev_one]; grind

/-- AITKEN: what goes through the points j to j + k, and its greatest factor is the divided difference. -/
theorem dd_is (X Y : Nat → F) (k : Nat) : ∀ j, Apart X (j + k + 1) → ∃ p : List F, p.length ≤ k + 1 ∧ (∀ i, j ≤ i → i ≤ j + k → Pol.ev p (X i) = Y i) ∧ co p k = dd X Y k j := by
  induction k with
  | zero =>
    intro j _
    refine ⟨[Y j], by simp, fun i h1 h2 => ?_, by simp [co, dd]⟩
    rw [show i = j by omega, ev_one]
  | succ k ih =>
    intro j hX
    obtain ⟨p, lp, ep, cp⟩ := ih j (hX.le (by omega))
    obtain ⟨q, lq, eq, cq⟩ := ih (j + 1) (by rw [show j + 1 + k + 1 = j + (k + 1) + 1 by omega]; exact hX)
    have ne : X (j + k + 1) - X j ≠ 0 := sub_ne (hX.ne (by omega) (by omega) (by omega))
    have hi := inv_mul ne
    refine ⟨trim (times (inv (X (j + k + 1) - X j)) (padd (pmul [-(X j), 1] q) (pmul [X (j + k + 1), -1] p))), trim_short _ _ fun m hm => ?_, fun i h1 h2 => ?_, ?_⟩
    · obtain ⟨m, rfl⟩ : ∃ t, m = t + 1 := ⟨m - 1, by omega⟩
      rw [co_times, co_padd, co_lin, co_lin, co_out q (m + 1) (by omega), co_out p (m + 1) (by omega), co_out q m (by omega), co_out p m (by omega)]; grind
    · rw [ev_trim, ev_times, ev_padd, ev_lin, ev_lin]
      by_cases a : i = j
      · subst a
        rw [ep i (by omega) (by omega)]; grind
      · by_cases b : i = j + k + 1
        · subst b
          rw [eq (j + k + 1) (by omega) (by omega)]; grind
        · rw [ep i (by omega) (by omega), eq i (by omega) (by omega)]; grind
    · rw [co_trim, co_times, co_padd, co_lin, co_lin, co_out q (k + 1) (by omega), co_out p (k + 1) (by omega), cp, cq, dd]; grind

/-- The divided difference is the factor of the k-th power of what goes through the points 0 to k. -/
theorem dd_top {X Y : Nat → F} {k : Nat} {p : List F} (hX : Apart X (k + 1)) (hp : Th X Y (k + 1) p) : co p k = dd X Y k 0 := by
  obtain ⟨q, lq, eq, cq⟩ := dd_is X Y k 0 (by rw [Nat.zero_add]; exact hX)
  rw [← cq]
  exact hp.one hX ⟨lq, fun i hi => eq i (Nat.zero_le _) (by omega)⟩ k

/-- Some polynomial goes through the points. -/
theorem th_some (X Y : Nat → F) (n : Nat) (hX : Apart X n) : ∃ p, Th X Y n p := by
  cases n with
  | zero => exact ⟨[], Nat.le_refl _, fun i hi => by omega⟩
  | succ n =>
    obtain ⟨p, lp, ep, _⟩ := dd_is X Y n 0 (by rw [Nat.zero_add]; exact hX)
    exact ⟨p, lp, fun i hi => ep i (Nat.zero_le _) (by omega)⟩

/-- (x - x0) .. (x - xk): the polynomial. -/
def way (X : Nat → F) : Nat → List F
  | 0 => [1]
  | k + 1 => mul (way X k) [-(X k), 1]
theorem len_way (X : Nat → F) (k : Nat) (hk : k ≤ 100) : (way X k).length ≤ k + 1 := by
  induction k with
  | zero => exact Nat.le_refl _
  | succ k ih =>
    have h := ih (by omega)
    have := len_mul' (way X k) [-(X k), 1] (by simp; omega)
    simp at this
    rw [way]; omega
theorem tr_way (X : Nat → F) (k : Nat) : Tr (way X k) := by
  cases k with
  | zero => exact fun _ => one_ne
  | succ k => exact tr_mul _ _
theorem ev_way_zero (X : Nat → F) (k i : Nat) (h : i < k) : Pol.ev (way X k) (X i) = 0 := by
  induction k with
  | zero => omega
  | succ k ih =>
    rw [way, ev_mul, ev_cons, ev_one]
    by_cases e : i = k
    · subst e; grind
    · rw [ih (by omega)]; grind
/-- The factor of the greatest power is one. -/
theorem co_way (X : Nat → F) (k : Nat) (hk : k ≤ 100) : co (way X k) k = 1 := by
  induction k with
  | zero => rfl
  | succ k ih =>
    have h := ih (by omega)
    have l := len_way X k (by omega)
    rw [way, mul, co_trim]
    have := co_pmul (way X k) [-(X k), 1] k 1 l (by simp)
    rw [this, h]; simp [co]

/-- NEWTON's sum: of the first m steps. -/
def nsum (X S : Nat → F) : Nat → List F
  | 0 => []
  | m + 1 => plus (nsum X S m) (way X m) (S m) 0
theorem tr_nsum (X S : Nat → F) (m : Nat) : Tr (nsum X S m) := by
  cases m with
  | zero => exact tr_nil
  | succ m => exact tr_plus _ _ _ _
theorem len_nsum (X S : Nat → F) (m : Nat) (hm : m ≤ 100) : (nsum X S m).length ≤ m := by
  induction m with
  | zero => exact Nat.le_refl _
  | succ m ih =>
    have h := ih (by omega)
    have l := len_way X m (by omega)
    have := len_plus (nsum X S m) (way X m) (S m) 0
    rw [nsum]; omega
theorem th_nsum (X Y : Nat → F) (m : Nat) (hm : m ≤ 100) (hX : Apart X m) : Th X Y m (nsum X (fun k => dd X Y k 0) m) := by
  induction m with
  | zero => exact ⟨Nat.le_refl _, fun i hi => by omega⟩
  | succ m ih =>
    have h := ih (by omega) (hX.le (by omega))
    obtain ⟨p, hp⟩ := th_some X Y (m + 1) hX
    have c := dd_top hX hp
    have l := len_way X m (by omega)
    -- p without its greatest factor times the way
    have hq : Th X Y m (trim (padd p (times (-(dd X Y m 0)) (way X m)))) := by
      refine ⟨trim_short _ _ fun k hk => ?_, fun i hi => ?_⟩
      · rw [co_padd, co_times]
        by_cases e : k = m
        · subst e; rw [c, co_way X k (by omega)]; grind
        · rw [co_out p k (by have := hp.1; omega), co_out _ k (by omega)]; grind
      · rw [ev_trim, ev_padd, ev_times, ev_way_zero X m i hi, hp.2 i (by omega)]; grind
    refine ⟨len_nsum X _ (m + 1) hm, fun i hi => ?_⟩
    have e := h.ev (hX.le (by omega)) hq (X i)
    rw [nsum, ev_plus, e, ev_trim, ev_padd, ev_times, pw_zero, hp.2 i hi]; grind

/-- From the end on: what the last n - i steps make. -/
def hor (X S : Nat → F) (n : Nat) : Nat → List F
  | 0 => []
  | m + 1 => add (mul (hor X S n m) [-(X (n - (m + 1))), 1]) [S (n - (m + 1))]
theorem len_hor (X S : Nat → F) (n m : Nat) (hm : m ≤ 100) : (hor X S n m).length ≤ m := by
  induction m with
  | zero => exact Nat.le_refl _
  | succ m ih =>
    have h := ih (by omega)
    have l := len_mul' (hor X S n m) [-(X (n - (m + 1))), 1] (by simp; omega)
    have := len_add (mul (hor X S n m) [-(X (n - (m + 1))), 1]) [S (n - (m + 1))]
    simp at l this
    rw [hor]; omega
theorem tr_hor (X S : Nat → F) (n m : Nat) : Tr (hor X S n m) := by
  cases m with
  | zero => exact tr_nil
  | succ m => exact tr_add _ _
theorem ev_hor (X S : Nat → F) (n m : Nat) (hm : m ≤ n) (x : F) : Pol.ev (nsum X S n) x = Pol.ev (nsum X S (n - m)) x + Pol.ev (way X (n - m)) x * Pol.ev (hor X S n m) x := by
  induction m with
  | zero => rw [hor, ev_nil, Nat.sub_zero]; grind
  | succ m ih =>
    have e : n - m = (n - (m + 1)) + 1 := by omega
    rw [ih (by omega), e, nsum, ev_plus, way, ev_mul, hor, ev_add, ev_mul, ev_one, ev_cons, ev_one, pw_zero]; grind
theorem hor_nsum (X S : Nat → F) (n : Nat) (hn : n ≤ 100) : hor X S n n = nsum X S n := by
  refine Pol.same _ _ (tr_hor X S n n) (tr_nsum X S n) (by have := len_hor X S n n hn; omega) (by have := len_nsum X S n hn; omega) fun x => ?_
  have := ev_hor X S n n (Nat.le_refl _) x
  rw [Nat.sub_self] at this
  rw [this]; show _ = 0 + _ * _; rw [show Pol.ev (way X 0) x = 1 from ev_one 1 x]; grind

/-- The one that goes through the points, without noughts at its end. -/
def thr (X Y : Nat → F) (n : Nat) : List F := hor X (fun k => dd X Y k 0) n n
theorem thr_nsum (X Y : Nat → F) (n : Nat) (hn : n ≤ 100) : thr X Y n = nsum X (fun k => dd X Y k 0) n := hor_nsum X _ n hn
theorem th_thr (X Y : Nat → F) (n : Nat) (hn : n ≤ 100) (hX : Apart X n) : Th X Y n (thr X Y n) := by
  rw [thr_nsum X Y n hn]; exact th_nsum X Y n hn hX
theorem tr_thr (X Y : Nat → F) (n : Nat) : Tr (thr X Y n) := tr_hor _ _ _ _
theorem len_thr (X Y : Nat → F) (n : Nat) (hn : n ≤ 100) : (thr X Y n).length ≤ n := len_hor _ _ _ _ hn
theorem thr_of {X Y : Nat → F} {n : Nat} {p : List F} (hn : n ≤ 100) (hX : Apart X n) (h : Th X Y n p) (tp : Tr p) : p = thr X Y n :=
  h.same hX (th_thr X Y n hn hX) tp (tr_thr X Y n)
theorem co_thr {X Y : Nat → F} {k : Nat} (hk : k < 100) (hX : Apart X (k + 1)) : co (thr X Y (k + 1)) k = dd X Y k 0 := dd_top hX (th_thr X Y (k + 1) (by omega) hX)

/-- LAGRANGE: the one that is y at place i and nought at the others, of the first k. -/
def lag (X : Nat → F) (y : F) (i : Nat) : Nat → List F
  | 0 => [y]
  | k + 1 => if k = i then lag X y i k else mul (lag X y i k) [-(X k) * inv (X i - X k), inv (X i - X k)]
theorem len_lag (X : Nat → F) (y : F) (i k : Nat) (hk : k ≤ 100) : (lag X y i k).length ≤ k + 1 ∧ (i < k → (lag X y i k).length ≤ k) := by
  induction k with
  | zero => exact ⟨by simp [lag], fun h => by omega⟩
  | succ k ih =>
    have h := ih (by omega)
    rw [lag]
    by_cases e : k = i
    · rw [if_pos e]; exact ⟨by omega, fun _ => by omega⟩
    · rw [if_neg e]
      have l := len_mul' (lag X y i k) [-(X k) * inv (X i - X k), inv (X i - X k)] (by simp; omega)
      simp at l
      exact ⟨by omega, fun hi => by have := h.2 (by omega); omega⟩
theorem lag_one (a b i y : F) (h : i * (a - b) = 1) : y * (-b * i + a * i) = y := by
  have : -b * i + a * i = i * (a - b) := by grind
  rw [this, h, Fin.mul_one]
theorem lag_zero (a i y : F) : y * (-a * i + a * i) = 0 := by grind
theorem ev_lag_at (X : Nat → F) (y : F) (n i k : Nat) (hX : Apart X n) (hi : i < n) (hk : k ≤ n) : Pol.ev (lag X y i k) (X i) = y := by
  induction k with
  | zero => rw [lag, ev_one]
  | succ k ih =>
    rw [lag]
    by_cases e : k = i
    · rw [if_pos e]; exact ih (by omega)
    · rw [if_neg e, ev_mul, ih (by omega), ev_cons, ev_one]
      exact lag_one _ _ _ _ (inv_mul (sub_ne (hX.ne hi (show k < n by omega) (fun h => e h.symm))))
theorem ev_lag_no (X : Nat → F) (y : F) (i k j : Nat) (hj : j < k) (h : j ≠ i) : Pol.ev (lag X y i k) (X j) = 0 := by
  induction k with
  | zero => omega
  | succ k ih =>
    rw [lag]
    by_cases e : k = i
    · rw [if_pos e]; exact ih (by omega)
    · rw [if_neg e, ev_mul, ev_cons, ev_one]
      by_cases e2 : j = k
      · subst e2; exact lag_zero _ _ _
      · rw [ih (by omega), Fin.zero_mul]
/-- LAGRANGE's sum of the first m. -/
def lsum (X Y : Nat → F) (n : Nat) : Nat → List F
  | 0 => []
  | m + 1 => plus (lsum X Y n m) (lag X (Y m) m n) 1 0
theorem len_lsum (X Y : Nat → F) (n m : Nat) (hn : n ≤ 100) (hm : m ≤ n) : (lsum X Y n m).length ≤ n := by
  induction m with
  | zero => exact Nat.zero_le _
  | succ m ih =>
    have h := ih (by omega)
    have l := (len_lag X (Y m) m n hn).2 (by omega)
    have := len_plus (lsum X Y n m) (lag X (Y m) m n) 1 0
    rw [lsum]; omega
theorem ev_lsum (X Y : Nat → F) (n m j : Nat) (hX : Apart X n) (hm : m ≤ n) (hj : j < n) : Pol.ev (lsum X Y n m) (X j) = if j < m then Y j else 0 := by
  induction m with
  | zero => rw [lsum, ev_nil, if_neg (by omega)]
  | succ m ih =>
    rw [lsum, ev_plus, ih (by omega), pw_zero]
    by_cases e : j = m
    · subst e
      rw [if_neg (by omega), if_pos (by omega), ev_lag_at X (Y j) n j n hX hj (Nat.le_refl _)]; grind
    · rw [ev_lag_no X (Y m) m n j hj e]
      by_cases l : j < m
      · rw [if_pos l, if_pos (by omega)]; grind
      · rw [if_neg l, if_neg (by omega)]; grind
theorem lsum_thr (X Y : Nat → F) (n : Nat) (hn : n ≤ 100) (hX : Apart X n) : lsum X Y n n = thr X Y n := by
  refine thr_of hn hX ⟨len_lsum X Y n n hn (Nat.le_refl _), fun i hi => ?_⟩ ?_
  · rw [ev_lsum X Y n n i hX (Nat.le_refl _) hi, if_pos hi]
  · cases n with
    | zero => exact tr_nil
    | succ n => exact tr_plus _ _ _ _

/-- The points from the end on. -/
theorem thr_turned (X Y X' Y' : Nat → F) (n : Nat) (hn : n ≤ 100) (hX : Apart X n) (hx : ∀ i, i < n → X' i = X (n - 1 - i)) (hy : ∀ i, i < n → Y' i = Y (n - 1 - i)) :
    Apart X' n ∧ thr X' Y' n = thr X Y n := by
  have hA : Apart X' n := fun i j h1 h2 => by
    rw [hx i (by omega), hx j h2]
    exact hX.ne (by omega) (by omega) (by omega)
  refine ⟨hA, thr_of hn hX ⟨len_thr X' Y' n hn, fun i hi => ?_⟩ (tr_thr X' Y' n)⟩
  have h := (th_thr X' Y' n hn hA).2 (n - 1 - i) (by omega)
  rw [hx _ (by omega), hy _ (by omega), show n - 1 - (n - 1 - i) = i by omega] at h
  exact h
theorem thr_congr {X Y X' Y' : Nat → F} {n : Nat} (hn : n ≤ 100) (hX : Apart X n) (hx : ∀ i, i < n → X' i = X i) (hy : ∀ i, i < n → Y' i = Y i) : Apart X' n ∧ thr X' Y' n = thr X Y n := by
  have hA : Apart X' n := fun i j h1 h2 => by rw [hx i (by omega), hx j h2]; exact hX i j h1 h2
  refine ⟨hA, thr_of hn hX ⟨len_thr X' Y' n hn, fun i hi => ?_⟩ (tr_thr X' Y' n)⟩
  have h := (th_thr X' Y' n hn hA).2 i hi
  rw [hx i hi, hy i hi] at h
  exact h
/-- What goes through sums is the sum. -/
theorem thr_sum (X Y Z : Nat → F) (n : Nat) (hn : n ≤ 100) (hX : Apart X n) : thr X (fun i => Y i + Z i) n = add (thr X Y n) (thr X Z n) := by
  refine (thr_of hn hX ⟨?_, fun i hi => ?_⟩ (tr_add _ _)).symm
  · have := len_add (thr X Y n) (thr X Z n)
    have := len_thr X Y n hn
    have := len_thr X Z n hn
    omega
  · rw [ev_add, (th_thr X Y n hn hX).2 i hi, (th_thr X Z n hn hX).2 i hi]

/-- The table of the divided differences: cell k after the orders up to o. -/
def tab (X Y : Nat → F) (o k : Nat) : F := dd X Y (min k o) (k - min k o)
theorem tab_zero (X Y : Nat → F) (k : Nat) : tab X Y 0 k = Y k := by rw [tab, Nat.min_zero]; rfl
theorem tab_low (X Y : Nat → F) (o k : Nat) (h : k ≤ o) : tab X Y o k = dd X Y k 0 := by rw [tab, Nat.min_eq_left h, Nat.sub_self]
theorem tab_keep (X Y : Nat → F) (o k : Nat) (h : k ≤ o) : tab X Y (o + 1) k = tab X Y o k := by rw [tab_low X Y o k h, tab_low X Y (o + 1) k (by omega)]
theorem tab_step (X Y : Nat → F) (o k : Nat) (h : o + 1 ≤ k) : tab X Y (o + 1) k = (tab X Y o k - tab X Y o (k - 1)) * inv (X k - X (k - (o + 1))) := by
  obtain ⟨j, rfl⟩ : ∃ j, k = j + (o + 1) := ⟨k - (o + 1), by omega⟩
  rw [tab, Nat.min_eq_right h, Nat.add_sub_cancel, dd, tab, Nat.min_eq_right (by omega), tab, Nat.min_eq_right (by omega)]
  rw [show j + (o + 1) - o = j + 1 by omega, show j + (o + 1) - 1 - o = j by omega, show j + o + 1 = j + (o + 1) by omega]
/-- While order o + 1 is made: the cells from i on have it. -/
def mid (X Y : Nat → F) (o i k : Nat) : F := if i < k then tab X Y (o + 1) k else tab X Y o k
/-- A row from a rule. -/
def row (n : Nat) (g : Nat → F) : List F := (List.range n).map g
theorem len_row (n : Nat) (g : Nat → F) : (row n g).length = n := by simp [row]
theorem co_row (n : Nat) (g : Nat → F) (k : Nat) (h : k < n) : co (row n g) k = g k := by
  unfold co row
  rw [List.getD_eq_getElem?_getD, List.getElem?_map, List.getElem?_range h]; rfl
theorem row_ext (n : Nat) (g h : Nat → F) (e : ∀ k, k < n → g k = h k) : row n g = row n h :=
  List.map_congr_left fun k hk => e k (List.mem_range.1 hk)
theorem row_self (p : List F) : row p.length (co p) = p := by
  refine list_ext _ _ (len_row _ _) fun k => ?_
  rcases Nat.lt_or_ge k p.length with h | h
  · exact co_row _ _ k h
  · rw [co_out _ k (by rw [len_row]; exact h), co_out _ k h]
theorem row_set (n : Nat) (g h : Nat → F) (i : Nat) (hi : i < n) (e : ∀ k, k < n → h k = if k = i then h i else g k) : (row n g).set i (h i) = row n h := by
  refine list_ext _ _ (by rw [List.length_set, len_row, len_row]) fun k => ?_
  rcases Nat.lt_or_ge k n with l | l
  · rw [co_set _ _ _ _ (by rw [len_row]; exact hi), co_row n h k l, e k l, co_row n g k l]
  · rw [co_out _ k (by rw [List.length_set, len_row]; exact l), co_out _ k (by rw [len_row]; exact l)]
theorem row_mid (X Y : Nat → F) (n o i : Nat) (hi : i < n) (ho : o + 1 ≤ i) :
    (row n (mid X Y o i)).set i (tab X Y (o + 1) i) = row n (mid X Y o (i - 1)) := by
  have e : mid X Y o (i - 1) i = tab X Y (o + 1) i := by rw [mid, if_pos (by omega)]
  rw [← e]
  refine row_set n _ _ i hi fun k hk => ?_
  by_cases h : k = i
  · subst h; rw [if_pos rfl]
  · rw [if_neg h, mid, mid]
    by_cases h2 : i < k
    · rw [if_pos h2, if_pos (by omega)]
    · rw [if_neg h2, if_neg (by omega)]
theorem mid_start (X Y : Nat → F) (n o : Nat) : row n (mid X Y o (n - 1)) = row n (tab X Y o) := row_ext _ _ _ fun k hk => by rw [mid, if_neg (by omega)]
theorem mid_end (X Y : Nat → F) (n o : Nat) : row n (mid X Y o o) = row n (tab X Y (o + 1)) := row_ext _ _ _ fun k hk => by
  rw [mid]
  by_cases h : o < k
  · rw [if_pos h]
  · rw [if_neg h, tab_keep X Y o k (by omega)]
theorem tab_end (X Y : Nat → F) (n o : Nat) (h : n ≤ o + 1) : row n (tab X Y o) = row n (fun k => dd X Y k 0) := row_ext _ _ _ fun k hk => tab_low X Y o k (by omega)

end Go.Proofs.YtologiinkilooaaDoor.Pol

/- The factors of a matrix as the polynomial that goes through its determinants at 0 to n. No program is named here. -/
namespace Go.Proofs.YtologiinkilooaaDoor.Mx
open Fp
set_option linter.unusedVariables false

/-- The factors of x times the one less a matrix, from the constant one on. -/
def chl (n : Nat) (f : Nat → Nat → F) : List F := (List.range (n + 1)).map (ch n f)
theorem len_chl (n : Nat) (f : Nat → Nat → F) : (chl n f).length = n + 1 := by simp [chl]
theorem co_chl {n k : Nat} (f : Nat → Nat → F) (h : k ≤ n) : Pol.co (chl n f) k = ch n f k := by simp [chl, Pol.co, List.getD, show k < n + 1 by omega]
theorem chl_ext {n : Nat} {f g : Nat → Nat → F} (h : ∀ k, k ≤ n → ch n f k = ch n g k) : chl n f = chl n g :=
  List.map_congr_left fun k hk => h k (by have := List.mem_range.1 hk; omega)
theorem tr_chl (n : Nat) (f : Nat → Nat → F) : Pol.Tr (chl n f) := fun _ => by
  rw [len_chl, Nat.add_sub_cancel, co_chl f (Nat.le_refl n), ch_top]; decide
theorem ev_chl (n : Nat) (f : Nat → Nat → F) (x : F) : Pol.ev (chl n f) x = dt n (chm f x) := by
  rw [chl, vx_ev, ch_is]

/-- The numbers 0 to n - 1. -/
def upto (n : Nat) : List F := (List.range n).map fun (k : Nat) => ofInt (k : Int)
theorem len_upto (n : Nat) : (upto n).length = n := by simp [upto]
theorem co_upto {n k : Nat} (h : k < n) : Pol.co (upto n) k = ofInt (k : Int) := by simp [upto, Pol.co, List.getD, h]
theorem upto_succ (n : Nat) : upto (n + 1) = upto n ++ [ofInt (n : Int)] := by simp [upto, List.range_succ]
/-- The determinants of k times the one less a matrix, k from 0 to m - 1. -/
def cdet (n : Nat) (f : Nat → Nat → F) (m : Nat) : List F := (List.range m).map fun (k : Nat) => dt n (chm f (ofInt (k : Int)))
theorem len_cdet (n : Nat) (f : Nat → Nat → F) (m : Nat) : (cdet n f m).length = m := by simp [cdet]
theorem co_cdet (n : Nat) (f : Nat → Nat → F) {m k : Nat} (h : k < m) : Pol.co (cdet n f m) k = dt n (chm f (ofInt (k : Int))) := by simp [cdet, Pol.co, List.getD, h]
theorem cdet_succ (n : Nat) (f : Nat → Nat → F) (m : Nat) : cdet n f (m + 1) = cdet n f m ++ [dt n (chm f (ofInt (m : Int)))] := by simp [cdet, List.range_succ]

theorem upto_apart {n m : Nat} (hn : n ≤ m) (hm : m ≤ 100) : Pol.Apart (Pol.co (upto m)) n := fun i j h1 h2 e => by
  rw [co_upto (by omega), co_upto (by omega)] at e
  have h := congrArg (fun a : F => (a.val : Int)) e
  simp only [ofInt_val] at h
  omega
theorem thr_chl {n : Nat} (hn : n ≤ 50) (f : Nat → Nat → F) : Pol.thr (Pol.co (upto (n + 1))) (Pol.co (cdet n f (n + 1))) (n + 1) = chl n f := by
  refine (Pol.thr_of (by omega) (upto_apart (Nat.le_refl _) (by omega)) ⟨?_, fun i hi => ?_⟩ (tr_chl n f)).symm
  · rw [len_chl]; exact Nat.le_refl _
  · rw [ev_chl, co_upto hi, co_cdet n f hi]

/-- What the document's sum over some rows and the same columns gives. -/
def prn (f : Nat → Nat → F) (n k : Nat) : F := prin f [] (List.range n) k
theorem ch_prn {n j : Nat} (h : j ≤ n) (f : Nat → Nat → F) : ch n f (n - j) = sgn j * prn f n j := by
  show chC f [] (List.range n) (n - j) = _
  unfold chC prn
  simp only [List.length_nil, List.length_range, Nat.zero_add]
  rw [show n - (n - j) = j by omega]
end Go.Proofs.YtologiinkilooaaDoor.Mx

/- Contracts of package charpoly, first part: difference (x times the one, less a matrix), Trace. -/
namespace Go.Proofs.YtologiinkilooaaDoor
open Go.ChangeShapes Go.WideShapes Go.ChangeAt Go.RowKit
set_option linter.unusedVariables false

theorem cval (a : Fp.F) : 0 ≤ (a.val : Int) ∧ (a.val : Int) ≤ 9972 := by have := a.isLt; omega
theorem neg_mod' (a : Fp.F) : ((9973 : Int) - (a.val : Int)).tmod 9973 = ((-a : Fp.F).val : Int) := by
  have h := cval a
  rw [Int.tmod_eq_emod_of_nonneg (by omega), ← Fp.ofInt_val]
  have h2 := Fp.ofInt_add (9973 - (a.val : Int)) (a.val : Int)
  rw [Fp.ofInt_self, show (9973 - (a.val : Int)) + (a.val : Int) = 9973 by omega, show Fp.ofInt 9973 = 0 by decide] at h2
  have : Fp.ofInt (9973 - (a.val : Int)) = -a := by grind
  rw [this]
theorem plus_mod' (a : Fp.F) (x : Nat) : ((a.val : Int) + (x : Int)).tmod 9973 = ((a + Fp.ofInt (x : Int)).val : Int) := by
  have h := cval a
  rw [Int.tmod_eq_emod_of_nonneg (by omega), ← Fp.ofInt_val, Fp.ofInt_add, Fp.ofInt_self]

/-- What stands where row i is written as far as place j. -/
def difTo (f : Nat → Nat → Fp.F) (x : Fp.F) (i j : Nat) : Nat → Nat → Int := fun a b => if a = i then (if b < j then ((-(f a b)).val : Int) else 0) else ((Mx.chm f x a b).val : Int)
theorem difTo_step {f : Nat → Nat → Fp.F} {x : Fp.F} {i j a b : Nat} : (if a = i ∧ b = j then ((-(f i j)).val : Int) else difTo f x i j a b) = difTo f x i (j + 1) a b := by
  unfold difTo
  by_cases h1 : a = i
  · by_cases h2 : b = j
    · rw [if_pos ⟨h1, h2⟩, if_pos h1, if_pos (by omega), h1, h2]
    · rw [if_neg (fun h => h2 h.2), if_pos h1, if_pos h1]
      by_cases h3 : b < j
      · rw [if_pos h3, if_pos (by omega)]
      · rw [if_neg h3, if_neg (by omega)]
  · rw [if_neg (fun h => h1 h.1), if_neg h1, if_neg h1]
theorem difTo_done {f : Nat → Nat → Fp.F} {x : Fp.F} {i n a b : Nat} (hb : b < n) : (if a = i ∧ b = i then ((-(f i i) + x).val : Int) else difTo f x i n a b) = ((Mx.chm f x a b).val : Int) := by
  unfold difTo Mx.chm
  by_cases h1 : a = i
  · by_cases h2 : b = i
    · rw [if_pos ⟨h1, h2⟩, if_pos (by omega), h1, h2]; (congr 2 <;> grind)
    · rw [if_neg (fun h => h2 h.2), if_pos h1, if_pos hb, if_neg (by omega)]; (congr 2 <;> grind)
  · rw [if_neg (fun h => h1 h.1), if_neg h1]

set_option maxRecDepth 100000 in
set_option maxHeartbeats 6400000 in
theorem difference_any (A : Option Addr) (f : Nat → Nat → Fp.F) (n d x : Nat) (w : World) (ha : LiesM w A (Mx.matl n n f)) (hn : n ≤ 5) (hx : x ≤ 5) :
    Calls Tryd.prog 20 #[.int .i64 (x : Int), .slice A n d] w fun e w' => ∃ g, e = .returned (.slice (some ⟨g, 0, none⟩) n n) ∧ LiesM w' (some ⟨g, 0, none⟩) (Mx.matl n n (Mx.chm f (Fp.ofInt (x : Int)))) ∧ Kp w w' := by
  have HA := Lib.hid ha
  clear ha
  obtain ⟨i0, hi, hz0, hz1, hz2⟩ := info_parts int_info
  obtain ⟨j0, hj, hy0, hy1, hy2⟩ := info_parts ints_info
  have HV := Lib.hid (fun a : Fp.F => plus_mod' a x)
  obtain ⟨z, hz⟩ : ∃ z, z = Fp.ofInt (x : Int) := ⟨_, rfl⟩
  rw [← hz] at HV ⊢
  clear hz
  go_enter Tryd.func20, Tryd.ntmps20
  go_wp2_with (at_make; refine wpList_make_full _ rfl _ _ 22 rfl w.heap.size 24 j0 (.slice none 0 0) 1 Tryd.underlying22 hj hy0 hy1 _ _ _ _ n rfl rfl rfl rfl (by rw [hy2]; omega) (by unfold maxLen; omega) (Nat.le_refl _) ?_; intro w1 hown hgrow)
  have hpart : PartF w1 w.heap.size (fun _ => 0) n n 0 (fun i j => ((Mx.chm f z i j).val : Int)) := PartF.start _ hown
  have hkp : Kp w w1 := (Kp.rfl' w).grown hgrow (by simp) (fun k hk => by cases hk)
  clear hown hgrow hj hy0 hy1 hy2
  obtain ⟨g, hg⟩ : ∃ g, g = w.heap.size := ⟨_, rfl⟩
  rw [← hg] at hpart ⊢
  have HG := Lib.hid hg
  clear hg
  go_loopw [6, 7, 8, 9, 15] (fun _ _ _ _ i wr => ∃ (k : Nat) (G : Nat → Nat), k ≤ n ∧ i = .int .i64 (k : Int) ∧ PartF wr g G n n k (fun i j => ((Mx.chm f z i j).val : Int)) ∧ Kp w wr) (fun _ _ _ _ i _ => n - (intOf i).toNat)
  case atStart => exact ⟨0, _, Nat.zero_le _, rfl, hpart, hkp⟩
  case round =>
    clear hpart hkp
    obtain ⟨k, G, hk, rfl, hp, hkp⟩ := hrel
    by_cases hlt : k < n
    · have HP := Lib.hid hp
      have HK := Lib.hid hkp
      obtain ⟨ad, A1, d1, rfl, hl0, x0, _, l0⟩ := HA.out.row hlt
      have x1 := (hkp.cell (p := ad.add k) (by rw [block_add]; exact hl0)).trans x0
      have L1 := Lib.hid l0
      clear hp hkp l0 x0 hl0
      obtain ⟨wo', hwo⟩ : ∃ x, x = wr := ⟨_, rfl⟩
      subst hwo
      go_wp2_with (at_make; refine wpList_make_full _ rfl _ _ 24 rfl wo'.heap.size 3 i0 (.int .i64 0) 1 Tryd.underlying24 hi hz0 hz1 _ _ _ _ n rfl rfl rfl rfl (by rw [hz2]; omega) (by unfold maxLen; omega) (Nat.le_refl _) ?_; intro w2 hown hgrow; have hkp2 : Kp wo' w2 := (Kp.rfl' wo').grown hgrow (by simp) (fun k hk => by cases hk); have hcell := (HP.out.keep hkp2).cell (Nat.le_refl k) hlt; have hfree := (HP.out.keep hkp2).free k)
      have HPL := HP.out.lt
      have hpe : PartF wo' g G n n k (difTo f z k 0) := HP.out.ext (fun i j hi _ => by unfold difTo; rw [if_neg (by omega)])
      have hrow : Row (w2.setCell ⟨g, k, none⟩ (.slice (some ⟨wo'.heap.size, 0, none⟩) n n)) wo'.heap.size (Mx.row n (difTo f z k 0 k)) := by
        have h1 : Row (w2.setCell ⟨g, k, none⟩ (.slice (some ⟨wo'.heap.size, 0, none⟩) n n)) wo'.heap.size (List.replicate n 0) := (row_made hown).far (by show wo'.heap.size ≠ g; omega) _
        rw [Mx.row_rep] at h1
        rw [Mx.row_ext (g := difTo f z k 0 k) (h := fun _ => 0) (fun j hj => by unfold difTo; rw [if_pos rfl, if_neg (by omega)])]
        exact h1
      have HS := Lib.hid (hpe.step hlt hkp2 hrow (fun b _ => rfl))
      have HK2 := Lib.hid ((HK.out.trans hkp2).put (p := ⟨g, k, none⟩) (by show w.heap.size ≤ g; rw [HG.out]; exact Nat.le_refl _) (.slice (some ⟨wo'.heap.size, 0, none⟩) n n))
      clear hcell hfree hrow hpe hown hgrow hkp2
      generalize hGG : (fun i => if i = k then wo'.heap.size else G i) = GG at *
      clear hGG
      go_loopw [8, 9, 28] (fun _ _ i wq => ∃ m : Nat, m ≤ n ∧ i = .int .i64 (m : Int) ∧ PartF wq g GG n n (k + 1) (difTo f z k m) ∧ Kp w wq) (fun _ _ i _ => n - (intOf i).toNat)
      case atStart => exact ⟨0, Nat.zero_le _, rfl, HS.out, HK2.out⟩
      case round =>
        clear HS HK2
        obtain ⟨m, hm, rfl, hq, hkq⟩ := hrel
        have HQ := Lib.hid hq
        have HKQ := Lib.hid hkq
        have HGG := Lib.hid (show w.heap.size ≤ GG k by have := hq.after k (Nat.lt_succ_self k); have := HG.out; omega)
        have x1 := hq.cellOf (Nat.lt_succ_self k) hlt
        by_cases hmt : m < n
        · obtain ⟨bd, rfl, hbb, y1⟩ := (L1.out.keep hkq).el hmt
          have x2 := hq.el (Nat.lt_succ_self k) hmt
          have x3 := hq.freeOf (Nat.lt_succ_self k) m
          have hb := cval (f k m)
          have hm1 := neg_mod' (f k m)
          obtain ⟨y, hy⟩ : ∃ y, y = ((-(f k m)).val : Int) := ⟨_, rfl⟩
          rw [← hy] at hm1
          have HY := Lib.hid hy
          generalize ((f k m).val : Int) = u at *
          have hws : IntKind.i64.wrap (9973 - u) = 9973 - u := IntWalk.i64_in _ (by omega)
          clear hq hkq hy hbb
          go_wp2_with fail
          go_roundw
          case rel => exact ⟨m + 1, by omega, by go_num, (HQ.out.put (Nat.lt_succ_self k) m y).ext (fun a b _ _ => by rw [HY.out]; exact difTo_step), HKQ.out.put (p := ⟨GG k, m, none⟩) HGG.out _⟩
          case measure => simp [intOf]; omega
        · obtain rfl : m = n := by omega
          have x2 := hq.el (Nat.lt_succ_self k) hlt
          have x3 := hq.freeOf (Nat.lt_succ_self k) k
          rw [show difTo f z k m k k = ((-(f k k)).val : Int) by unfold difTo; rw [if_pos rfl, if_pos hlt]] at x2
          have hv := HV.out (-(f k k))
          have hb := cval (-(f k k))
          obtain ⟨y, hy⟩ : ∃ y, y = ((-(f k k) + z).val : Int) := ⟨_, rfl⟩
          rw [← hy] at hv
          have HY := Lib.hid hy
          generalize ((-(f k k)).val : Int) = u at *
          have hws : IntKind.i64.wrap (u + (x : Int)) = u + (x : Int) := IntWalk.i64_in _ (by omega)
          clear hq hkq hy
          go_wp2_with fail
          go_still_tail 16, (by kernel_rfl)
          change wpList _ _ _ _ _ wr.drew
          go_wp2_with fail
          go_roundw
          case rel => exact ⟨k + 1, GG, by omega, by go_num, ((HQ.out.keep ((Kp.rfl' wr).drewN 1)).put (Nat.lt_succ_self k) k y).ext (fun a b _ hb => by rw [HY.out]; exact difTo_done hb), (HKQ.out.drewN 1).put (p := ⟨GG k, k, none⟩) HGG.out _⟩
          case measure => simp [intOf]; omega
    · obtain rfl : k = n := by omega
      have HP := Lib.hid hp
      have HK := Lib.hid hkp
      clear hp hkp
      obtain rfl := HG.out
      go_wp2_with fail
      go_ret
      exact ⟨_, rfl, HP.out.done.lies, HK.out⟩
end Go.Proofs.YtologiinkilooaaDoor

/- Contracts of package euclid: Gcd and Bezout within and outside of their bounds. -/
namespace Go.Proofs.YtologiinkilooaaDoor
open Go.ChangeShapes Go.WideShapes Go.ChangeAt Go.RowKit
set_option linter.unusedVariables false

/-- The error that the program gives for a number out of its range. -/
abbrev errRange : Value := .iface 43 (.int .i64 1)

set_option maxHeartbeats 800000 in
theorem gcd_in (a b : Int) (w : World) (h1 : -1000000 ≤ a) (h2 : a ≤ 1000000) (h3 : -1000000 ≤ b) (h4 : b ≤ 1000000) :
    Calls Tryd.prog 58 #[.int .i64 a, .int .i64 b] w fun e w' => e = .returned (.tuple #[.int .i64 (Int.gcd a b : Int), .nilIface]) ∧ Drew w w' := by
  go_enter Tryd.func58, Tryd.ntmps58
  go_wp2_with (first
    | (go_at_call 72; refine (allowed_yes _ _ (by omega) (by omega)).mono ?_; rintro e w' ⟨rfl, rfl⟩)
    | (go_at_call 62; refine (size_any _ _ (by omega) (by omega)).mono ?_; rintro e w' ⟨rfl, rfl⟩)
    | (go_at_call 73; refine (divisor_any _ _ _ (by omega) (by omega)).mono ?_; rintro e w' ⟨rfl, hd⟩))
  go_ret2
  exact ⟨rfl, hd⟩

set_option maxHeartbeats 800000 in
theorem gcd_out (a b : Int) (w : World) (h : ¬ (-1000000 ≤ a ∧ a ≤ 1000000 ∧ -1000000 ≤ b ∧ b ≤ 1000000)) :
    Calls Tryd.prog 58 #[.int .i64 a, .int .i64 b] w fun e w' => e = .returned (.tuple #[.int .i64 0, errRange]) ∧ Drew w w' := by
  by_cases ha : -1000000 ≤ a ∧ a ≤ 1000000
  · have hb : b < -1000000 ∨ 1000000 < b := by omega
    have H := Lib.hid hb
    clear h hb
    go_enter Tryd.func58, Tryd.ntmps58
    go_wp2_with fail
    refine (allowed_yes _ _ (by omega) (by omega)).mono ?_; rintro e w' ⟨rfl, rfl⟩
    go_wp2_with fail
    refine (allowed_no _ _ H.out).mono ?_; rintro e w' ⟨rfl, rfl⟩
    go_wp2_with fail
    go_ret2
    exact ⟨rfl, Drew.refl _⟩
  · have hb : a < -1000000 ∨ 1000000 < a := by omega
    have H := Lib.hid hb
    clear h hb ha
    go_enter Tryd.func58, Tryd.ntmps58
    go_wp2_with fail
    refine (allowed_no _ _ H.out).mono ?_; rintro e w' ⟨rfl, rfl⟩
    go_wp2_with fail
    go_ret2
    exact ⟨rfl, Drew.refl _⟩

/-- Bezout's answer: some x and y that are Bezout's numbers. -/
def SomeBez (a b : Int) (w : World) (e : Ending) (w' : World) : Prop :=
  ∃ x y : Int, Num.BezOk a b x y ∧ e = .returned (.tuple #[.int .i64 (Int.gcd a b : Int), .int .i64 x, .int .i64 y, .nilIface]) ∧ Drew w w'

set_option maxHeartbeats 800000 in
theorem bezout_out (a b : Int) (w : World) (h : ¬ (-1000000 ≤ a ∧ a ≤ 1000000 ∧ -1000000 ≤ b ∧ b ≤ 1000000)) :
    Calls Tryd.prog 42 #[.int .i64 a, .int .i64 b] w fun e w' => e = .returned (.tuple #[.int .i64 0, .int .i64 0, .int .i64 0, errRange]) ∧ Drew w w' := by
  have H := Lib.hid h
  clear h
  go_enter Tryd.func42, Tryd.ntmps42
  go_wp2_with fail
  refine (gcd_out _ _ _ H.out).mono ?_; rintro e w' ⟨rfl, hd⟩
  go_wp2_with fail
  refine bodyPost_ret (v := .tuple #[.int .i64 0, .int .i64 0, .int .i64 0, errRange]) (by simp [results, Tryd.results42, go_sem]) rfl ⟨rfl, hd⟩

set_option maxHeartbeats 800000 in
theorem bezout_zero (a : Int) (w : World) (h1 : -1000000 ≤ a) (h2 : a ≤ 1000000) :
    Calls Tryd.prog 42 #[.int .i64 a, .int .i64 0] w fun e w' => SomeBez a 0 w e w' := by
  go_enter Tryd.func42, Tryd.ntmps42
  go_wp2_with fail
  refine (gcd_in _ _ _ (by omega) (by omega) (by omega) (by omega)).mono ?_; rintro e w' ⟨rfl, hd⟩
  go_wp2_with fail
  refine (sign_any _ _).mono ?_; rintro e w'' ⟨rfl, rfl⟩
  go_wp2_with fail
  refine bodyPost_ret (v := .tuple #[.int .i64 (Int.gcd a 0 : Int), .int .i64 a.sign, .int .i64 0, .nilIface]) (by simp [results, Tryd.results42, go_sem]) rfl ⟨_, _, Num.bez_zero a, rfl, hd⟩

set_option maxHeartbeats 1600000 in
theorem bezout_in (a b : Int) (w : World) (h1 : -1000000 ≤ a) (h2 : a ≤ 1000000) (h3 : -1000000 ≤ b) (h4 : b ≤ 1000000) (h0 : b ≠ 0) :
    Calls Tryd.prog 42 #[.int .i64 a, .int .i64 b] w fun e w' => SomeBez a b w e w' := by
  have hne : (b == 0) = false := by rw [beq_eq_false_iff_ne]; exact h0
  have hgp := Num.gcd_pos a b h0
  have hgs := Num.gcd_small a b h0
  have hgd : Int.gcd a b ∣ b.natAbs := by rw [Int.gcd_eq_natAbs_gcd_natAbs]; exact Nat.gcd_dvd_right _ _
  have hms := Num.div_small b _ hgp hgd h0 h3 h4
  clear hgd
  go_enter Tryd.func42, Tryd.ntmps42
  go_wp2_with fail
  refine (gcd_in _ _ _ (by omega) (by omega) (by omega) (by omega)).mono ?_; rintro e w' ⟨rfl, hd⟩
  go_wp2_with fail
  refine (factor_any _ _ _ (by omega) (by omega) (by omega) (by omega) h0).mono ?_
  rintro e w1 ⟨x0, hx0, rfl, hd1⟩
  go_wp2_with fail
  refine (size_any _ _ (by omega) (by omega)).mono ?_; rintro e w'' ⟨rfl, rfl⟩
  go_wp2_with fail
  have hxb := hx0.2
  refine (residue_any _ _ _ (by omega) (by omega) (by omega) (by omega)).mono ?_; rintro e w'' ⟨rfl, rfl⟩
  have y0 := Int.emod_nonneg x0 (show (b.natAbs : Int) / (Int.gcd a b : Int) ≠ 0 by omega)
  have y1 := Int.emod_lt_of_pos x0 (show 0 < (b.natAbs : Int) / (Int.gcd a b : Int) by omega)
  generalize hx : x0 % ((b.natAbs : Int) / (Int.gcd a b : Int)) = x at *
  have HX := Lib.hid hx
  have HB := Lib.hid (Num.bez_of a b x0 h0 hx0)
  obtain ⟨s1, s2⟩ := Num.bez_small a b x (Int.gcd a b) h1 h2 (by omega) y0 (by omega)
  clear hx hxb hx0
  go_wp2_with fail
  go_quiet (fail)
  go_wp2_with fail
  refine bodyPost_ret (v := .tuple #[.int .i64 (Int.gcd a b : Int), .int .i64 x, .int .i64 (((Int.gcd a b : Int) - a * x).tdiv b), .nilIface]) (by simp [results, Tryd.results42, go_sem]) rfl ⟨x, _, HB.out x _ (by rw [← HX.out]; simp) rfl, rfl, (hd.trans hd1).more _⟩

theorem bezout_any (a b : Int) (w : World) (h1 : -1000000 ≤ a) (h2 : a ≤ 1000000) (h3 : -1000000 ≤ b) (h4 : b ≤ 1000000) :
    Calls Tryd.prog 42 #[.int .i64 a, .int .i64 b] w fun e w' => SomeBez a b w e w' := by
  by_cases h : b = 0
  · subst h; exact bezout_zero a w h1 h2
  · exact bezout_in a b w h1 h2 h3 h4 h

end Go.Proofs.YtologiinkilooaaDoor

/- Contracts of package field: element, times, Add, Mul, Div, Pow, within and outside of their bounds. -/
namespace Go.Proofs.YtologiinkilooaaDoor
open Go.ChangeShapes Go.WideShapes Go.ChangeAt Go.RowKit
set_option linter.unusedVariables false

/-- The error that the program gives where there is none. -/
abbrev errNone : Value := .iface 43 (.int .i64 5)

/-- An element of the field as the program has it. -/
abbrev el (a : Fp.F) : Value := .int .i64 (a.val : Int)

theorem element_any (n : Int) (w : World) (b : Bool) (hb : (decide (0 ≤ n) && decide (n ≤ 9972)) = b) :
    Calls Tryd.prog 41 #[.int .i64 n] w fun e w' => e = .returned (.bool b) ∧ w = w' := by
  have H := Lib.hid hb
  clear hb
  by_cases h1 : 0 ≤ n
  · go_enter Tryd.func41, Tryd.ntmps41
    go_wp2
    go_ret
    exact ⟨ret_bool (by rw [← H.out, decide_eq_true h1, Bool.true_and]; exact decide_eq_decide.2 (by omega)), rfl⟩
  · go_enter Tryd.func41, Tryd.ntmps41
    go_wp2
    go_ret
    exact ⟨ret_bool (by rw [← H.out, decide_eq_false (show ¬ 0 ≤ n by omega), Bool.false_and]), rfl⟩

theorem element_el (a : Fp.F) (w : World) :
    Calls Tryd.prog 41 #[el a] w fun e w' => e = .returned (.bool true) ∧ w = w' :=
  element_any _ w true (by have := Fp.val_bound a; simp; omega)

theorem prod_bound (a b : Fp.F) : 0 ≤ (a.val : Int) * (b.val : Int) ∧ (a.val : Int) * (b.val : Int) ≤ 99440784 := by
  have h1 := Fp.val_bound a
  have h2 := Fp.val_bound b
  have := Int.mul_le_mul h1.2 h2.2 h2.1 (by omega)
  exact ⟨Int.mul_nonneg h1.1 h2.1, by omega⟩

theorem times_el (a b : Fp.F) (w : World) :
    Calls Tryd.prog 43 #[el a, el b] w fun e w' => e = .returned (el (a * b)) ∧ w = w' := by
  have E := Lib.hid (Fp.mul_val a b)
  obtain ⟨p1, p2⟩ := prod_bound a b
  have h1 := Fp.val_bound a
  have h2 := Fp.val_bound b
  unfold el
  generalize (a.val : Int) = x at *
  generalize (b.val : Int) = y at *
  go_enter Tryd.func43, Tryd.ntmps43
  go_wp2
  go_ret
  exact ⟨ret_int (by rw [E.out]), rfl⟩

/-- Both are elements, or one is none. -/
abbrev Both (a b : Int) : Prop := (0 ≤ a ∧ a ≤ 9972) ∧ (0 ≤ b ∧ b ≤ 9972)



theorem inv_unique {b x : Fp.F} (hb : b ≠ 0) (h : x * b = 1) : x = Fp.inv b := by
  have h2 := Fp.inv_mul hb
  generalize Fp.inv b = i at *
  exact Fp.mul_cancel hb (h.trans h2.symm)

/-- Bezout's number of an element and the prime is what undoes the element. -/
theorem bez_inv (b : Fp.F) (hb : b ≠ 0) (x y : Int) (h : Num.BezOk (b.val : Int) 9973 x y) : x = ((Fp.inv b).val : Int) := by
  obtain ⟨e, k, _⟩ := h
  have hg : Int.gcd (b.val : Int) 9973 = 1 := Fp.coprime b.val (Fp.ne_val hb) b.isLt
  have k := k (by decide)
  rw [hg] at e k
  have k2 : x < 9973 := by
    have : (((9973 : Int).natAbs / 1 : Nat) : Int) = 9973 := rfl
    omega
  have hx := Fp.ofInt_of x (by omega) (by omega)
  have hm : Fp.ofInt x * b = 1 := by
    refine Fp.val_inj ?_
    rw [Fp.mul_val, hx]
    have : (((1 : Fp.F).val : Nat) : Int) = 1 := rfl
    rw [this, Int.mul_comm]
    omega
  rw [← hx, inv_unique hb hm]

theorem div_el (a b : Fp.F) (w : World) (hb : b ≠ 0) :
    Calls Tryd.prog 24 #[el a, el b] w fun e w' => e = .returned (.tuple #[el (a * Fp.inv b), .nilIface]) ∧ Drew w w' := by
  have H1 := Lib.hid (element_el a)
  have H2 := Lib.hid (element_el b)
  have H3 := Lib.hid (times_el a (Fp.inv b))
  have hv := Fp.ne_val hb
  have h0 : (b.val : Int) ≠ 0 := by omega
  have hl := Fp.val_bound b
  have hne : ((b.val : Int) == 0) = false := by rw [beq_eq_false_iff_ne]; exact h0
  have HB := Lib.hid (bez_inv b hb)
  have HG := Lib.hid (show Int.gcd (b.val : Int) 9973 = 1 from Fp.coprime b.val hv b.isLt)
  clear hv
  unfold el at *
  generalize ((a * Fp.inv b).val : Int) = z at *
  generalize ((Fp.inv b).val : Int) = i at *
  generalize (a.val : Int) = x at *
  generalize (b.val : Int) = y at *
  go_enter Tryd.func24, Tryd.ntmps24
  go_wp2_with fail
  refine (H1.out _).mono ?_; rintro e w' ⟨rfl, rfl⟩
  go_wp2_with fail
  refine (H2.out _).mono ?_; rintro e w' ⟨rfl, rfl⟩
  go_wp2_with fail
  refine (bezout_any _ _ _ (by omega) (by omega) (by omega) (by omega)).mono ?_
  rintro e w1 ⟨x', y', hxy, rfl, hd⟩
  obtain rfl := HB.out _ _ hxy
  clear hxy
  go_wp2_with fail
  refine (H3.out _).mono ?_; rintro e w' ⟨rfl, rfl⟩
  go_wp2_with fail
  go_ret2
  exact ⟨rfl, hd⟩

theorem div_zero (a : Fp.F) (w : World) :
    Calls Tryd.prog 24 #[el a, .int .i64 0] w fun e w' => e = .returned (.tuple #[.int .i64 0, errNone]) ∧ w = w' := by
  have H1 := Lib.hid (element_el a)
  unfold el at *
  generalize (a.val : Int) = x at *
  go_enter Tryd.func24, Tryd.ntmps24
  go_wp2_with fail
  refine (H1.out _).mono ?_; rintro e w' ⟨rfl, rfl⟩
  go_wp2_with fail
  refine (element_any 0 _ true (by decide)).mono ?_; rintro e w' ⟨rfl, rfl⟩
  go_wp2_with fail
  go_ret2
  exact ⟨rfl, rfl⟩

theorem div_out (a b : Int) (w : World) (h : ¬ Both a b) :
    Calls Tryd.prog 24 #[.int .i64 a, .int .i64 b] w fun e w' => e = .returned (.tuple #[.int .i64 0, errRange]) ∧ w = w' := by
  by_cases ha : 0 ≤ a ∧ a ≤ 9972
  · have HA := Lib.hid (show (decide (0 ≤ a) && decide (a ≤ 9972)) = true by simp; omega)
    have HB := Lib.hid (show (decide (0 ≤ b) && decide (b ≤ 9972)) = false by simp; omega)
    clear h ha
    go_enter Tryd.func24, Tryd.ntmps24
    go_wp2_with fail
    refine (element_any _ _ _ HA.out).mono ?_; rintro e w' ⟨rfl, rfl⟩
    go_wp2_with fail
    refine (element_any _ _ _ HB.out).mono ?_; rintro e w' ⟨rfl, rfl⟩
    go_wp2_with fail
    go_ret2
    exact ⟨rfl, rfl⟩
  · have HA := Lib.hid (show (decide (0 ≤ a) && decide (a ≤ 9972)) = false by simp; omega)
    clear h ha
    go_enter Tryd.func24, Tryd.ntmps24
    go_wp2_with fail
    refine (element_any _ _ _ HA.out).mono ?_; rintro e w' ⟨rfl, rfl⟩
    go_wp2_with fail
    go_ret2
    exact ⟨rfl, rfl⟩


end Go.Proofs.YtologiinkilooaaDoor

/- Contracts of package poly, first part: a row of memory of the call's own, Check, checkBoth, trimmed. -/
namespace Go.Proofs.YtologiinkilooaaDoor
open Go.ChangeShapes Go.WideShapes Go.ChangeAt Go.RowKit
set_option linter.unusedVariables false

theorem check_full (A : Option Addr) (l : List Int) (c : Nat) (w : World) (h : 12 < l.length) :
    Calls Tryd.prog 71 #[.slice A l.length c] w fun e w' => e = .returned (errOf (Pol.code l)) ∧ w = w' := by
  rw [Pol.code_full h]
  generalize l.length = n at *
  have h' : (12 : Int) < n := by omega
  go_enter Tryd.func71, Tryd.ntmps71
  go_wp2
  go_ret
  exact ⟨rfl, rfl⟩

set_option maxHeartbeats 800000 in
theorem check_few (A : Option Addr) (l : List Int) (c : Nat) (w : World) (hl : Lies w A l) (hn : ¬ 12 < l.length) :
    Calls Tryd.prog 71 #[.slice A l.length c] w fun e w' => e = .returned (errOf (Pol.code l)) ∧ w = w' := by
  have HL := Lib.hid hl
  have BAD := Lib.hid (fun k hk h => Pol.code_range hn (k := k) hk h)
  have OK := Lib.hid (Pol.code_ok hn)
  obtain ⟨n, hn'⟩ : ∃ n, n = l.length := ⟨_, rfl⟩
  rw [← hn'] at hn ⊢
  rw [← hn'] at BAD OK
  have HN := Lib.hid hn'
  have h' : ¬ (12 : Int) < n := by omega
  obtain ⟨v, hv⟩ : ∃ v, v = Pol.code l := ⟨_, rfl⟩
  rw [← hv] at BAD OK ⊢
  clear hl hn' hv
  go_enter Tryd.func71, Tryd.ntmps71
  go_wp2_with fail
  go_loop [11] (fun i => ∃ k : Nat, k ≤ n ∧ i = .int .i64 (k : Int) ∧ ∀ j, j < k → 0 ≤ l.getD j 0 ∧ l.getD j 0 ≤ 9972) (fun i => n - (intOf i).toNat)
  case atStart => exact ⟨0, Nat.zero_le _, rfl, fun j hj => absurd hj (by omega)⟩
  case round =>
    obtain ⟨k, hk, rfl, hg⟩ := hrel
    have HG := Lib.hid hg
    clear hg
    by_cases hlt : k < n
    · obtain ⟨ad, rfl, _, hc⟩ := HL.out k (by have := HN.out; omega)
      obtain ⟨m, hm⟩ : ∃ m, m = l.getD k 0 := ⟨_, rfl⟩
      rw [← hm] at hc
      by_cases h0 : m < 0
      · have E := Lib.hid (BAD.out k hlt (by rw [← hm]; omega))
        clear hm
        go_wp2_with fail
        go_ret
        exact ⟨by rw [E.out]; rfl, rfl⟩
      · by_cases h1 : m ≤ 9972
        · have GG := Lib.hid (show ∀ j, j < k + 1 → 0 ≤ l.getD j 0 ∧ l.getD j 0 ≤ 9972 from fun j hj => by
            by_cases e : j = k
            · subst e; rw [← hm]; omega
            · exact HG.out j (by omega))
          clear hm
          go_wp2_with fail
          go_round
          case rel => exact ⟨k + 1, by omega, by go_num, GG.out⟩
          case measure => simp [intOf]; omega
        · have E := Lib.hid (BAD.out k hlt (by rw [← hm]; omega))
          clear hm
          go_wp2_with fail
          go_ret
          exact ⟨by rw [E.out]; rfl, rfl⟩
    · have E := Lib.hid (OK.out fun j hj => HG.out j (by omega))
      go_wp2_with fail
      go_ret
      exact ⟨by rw [E.out]; rfl, rfl⟩

theorem check_any (A : Option Addr) (l : List Int) (c : Nat) (w : World) (hl : Lies w A l) :
    Calls Tryd.prog 71 #[.slice A l.length c] w fun e w' => e = .returned (errOf (Pol.code l)) ∧ w = w' := by
  by_cases h : 12 < l.length
  · exact check_full A l c w h
  · exact check_few A l c w hl h

theorem pcheckBoth_any (A B : Option Addr) (l m : List Int) (c d : Nat) (w : World) (ha : Lies w A l) (hb : Lies w B m) :
    Calls Tryd.prog 55 #[.slice A l.length c, .slice B m.length d] w fun e w' => e = .returned (errOf (Pol.code2 l m)) ∧ w = w' := by
  have CA := Lib.hid (check_any A l c w ha)
  have CB := Lib.hid (check_any B m d w hb)
  unfold Pol.code2
  have hs := Pol.code_some l
  generalize Pol.code l = x at *
  generalize Pol.code m = y at *
  generalize l.length = n at *
  generalize m.length = q at *
  clear ha hb
  rcases hs with rfl | rfl | rfl
  · go_enter Tryd.func55, Tryd.ntmps55
    go_wp2_with fail
    refine (CA.out).mono ?_; rintro e w' ⟨rfl, rfl⟩
    rw [show errOf 0 = .nilIface from rfl]
    go_wp2_with fail
    refine (CB.out).mono ?_; rintro e w' ⟨rfl, rfl⟩
    go_wp2_with fail
    go_ret
    exact ⟨rfl, rfl⟩
  · go_enter Tryd.func55, Tryd.ntmps55
    go_wp2_with fail
    refine (CA.out).mono ?_; rintro e w' ⟨rfl, rfl⟩
    rw [show errOf 1 = .iface 43 (.int .i64 1) from rfl]
    go_wp2_with fail
    go_ret
    exact ⟨rfl, rfl⟩
  · go_enter Tryd.func55, Tryd.ntmps55
    go_wp2_with fail
    refine (CA.out).mono ?_; rintro e w' ⟨rfl, rfl⟩
    rw [show errOf 4 = .iface 43 (.int .i64 4) from rfl]
    go_wp2_with fail
    go_ret
    exact ⟨rfl, rfl⟩

/-- How long a slice is. -/
def sliceLen : Value → Nat
  | .slice _ n _ => n
  | _ => 0

theorem trim_step0 (p : List Fp.F) (k : Nat) (hk : k < p.length) (h : Pol.co p k = 0) : Pol.trim (p.take (k + 1)) = Pol.trim (p.take k) := by
  rw [Pol.take_succ p k hk, h, Pol.trim_zero]

theorem trimmed_any (A : Option Addr) (p : List Fp.F) (c : Nat) (w : World) (hl : Lies w A (Pol.vals p)) (hc : p.length ≤ c) (hn : p.length ≤ 1000000) :
    Calls Tryd.prog 56 #[.slice A p.length c] w fun e w' => e = .returned (.slice A (Pol.trim p).length c) ∧ w = w' := by
  have HL := Lib.hid hl
  obtain ⟨n, hn'⟩ : ∃ n, n = p.length := ⟨_, rfl⟩
  rw [← hn'] at hn hc ⊢
  have HN := Lib.hid hn'
  clear hl hn'
  go_enter Tryd.func56, Tryd.ntmps56
  go_wp2_with fail
  go_loop [0] (fun v => ∃ k : Nat, k ≤ n ∧ v = .slice A k c ∧ Pol.trim (p.take k) = Pol.trim p) (fun v => sliceLen v)
  case atStart => exact ⟨n, Nat.le_refl _, rfl, by rw [HN.out, List.take_length]⟩
  case round =>
    obtain ⟨k, hk, rfl, ht⟩ := hrel
    have HT := Lib.hid ht
    clear ht
    cases k with
    | zero =>
      have E := Lib.hid (show Pol.trim p = [] by rw [← HT.out]; rfl)
      go_wp2_with fail
      go_ret
      exact ⟨by rw [E.out]; rfl, rfl⟩
    | succ k =>
      obtain ⟨ad, rfl, _, hcell⟩ := HL.out k (by rw [Pol.len_vals, ← HN.out]; omega)
      rw [Pol.vals_at] at hcell
      by_cases h0 : Pol.co p k = 0
      · have e0 : (((Pol.co p k).val : Int) == 0) = true := by rw [h0]; rfl
        have ST := Lib.hid (trim_step0 p k (by have := HN.out; omega) h0)
        generalize ((Pol.co p k).val : Int) = m at *
        clear h0
        go_wp2_with fail
        go_round
        case rel => exact ⟨k, by omega, rfl, by rw [← ST.out]; exact HT.out⟩
        case measure => simp [sliceLen]
      · have e0 : (((Pol.co p k).val : Int) == 0) = false := by rw [beq_eq_false_iff_ne]; intro e; exact h0 (Fp.val_inj e)
        have E := Lib.hid (show Pol.trim p = p.take (k + 1) by rw [← HT.out, Pol.take_succ p k (by have := HN.out; omega), Pol.trim_not _ _ h0])
        have E2 := Lib.hid (show (p.take (k + 1)).length = k + 1 by rw [List.length_take]; have := HN.out; omega)
        generalize ((Pol.co p k).val : Int) = m at *
        clear h0
        go_wp2_with fail
        go_ret
        exact ⟨by rw [E.out, E2.out]; rfl, rfl⟩

end Go.Proofs.YtologiinkilooaaDoor

/- Contracts of package poly, second part: Add and Mul. -/
namespace Go.Proofs.YtologiinkilooaaDoor
open Go.ChangeShapes Go.WideShapes Go.ChangeAt Go.RowKit
set_option linter.unusedVariables false

/-- The answer is a row of factors, and no error. -/
def Gives (l : List Fp.F) (w : World) (e : Ending) (w' : World) : Prop :=
  ∃ A c, e = .returned (.tuple #[.slice A l.length c, .nilIface]) ∧ Lies w' A (Pol.vals l) ∧ l.length ≤ c ∧ Kp w w'
/-- The answer is an error, and nothing else. -/
def Fails (c : Nat) (w : World) (e : Ending) (w' : World) : Prop := e = .returned (.tuple #[.slice none 0 0, errOf c]) ∧ Kp w w'

theorem Row.trim {w : World} {g : Nat} {R : List Fp.F} (h : Row w g (Pol.vals R)) : Lies w (some ⟨g, 0, none⟩) (Pol.vals (Pol.trim R)) := by
  rw [Pol.trim_take, Pol.vals_take]; exact h.lies.take _

set_option maxRecDepth 100000 in
/-- copy(row, l): a row of noughts just made, and a slice that is no longer. -/
theorem copy_run (w1 : World) (g N n c : Nat) (A : Option Addr) (p : List Fp.F) (ty : TypeId) (hr : Row w1 g (Pol.vals (List.replicate N 0))) (hl : Lies w1 A (Pol.vals p)) (hn : n = p.length) (hN : n ≤ N) :
    ∃ w2, (Builtin.copy_ #[24, 24] ty #[.slice (some ⟨g, 0, none⟩) N N, .slice A n c]).run Tryd.prog w1 = .ok (goInt n) w2 ∧
      Row w2 g (Pol.vals (p ++ List.replicate (N - n) 0)) ∧ ∀ B w0, Below B w0 w1 → B ≤ g → Below B w0 w2 := by
  obtain ⟨i0, hi, hz0, hz1, hz2⟩ := info_parts int_info
  have hsz : (Tryd.prog.info? 3).map (·.size) = some 1 := by rw [hi]; simp [hz1]
  subst hn
  by_cases h0 : p.length = 0
  · obtain rfl : p = [] := List.eq_nil_of_length_eq_zero h0
    exact ⟨w1, run_copy_none w1 _ _ ty 3 _ A N N 0 c Tryd.underlying24 hsz (by simp), by simpa using hr, fun _ _ h _ => h⟩
  · obtain ⟨ad, rfl, _, _⟩ := hl 0 (by rw [Pol.len_vals]; omega)
    have hlen : (ints (Pol.vals p)).length = p.length := by rw [ints, List.length_map, Pol.len_vals]
    have hrun := run_copy_row (P := Tryd.prog) w1 24 24 ty 3 g 0 N N ad p.length c _ 3 (ints (Pol.vals p)) Tryd.underlying24 hsz hr (by rw [hlen]; exact (Nat.min_eq_left hN).symm)
      (fun j v hj => by
        have hj' : j < (Pol.vals p).length := by
          rcases Nat.lt_or_ge j (Pol.vals p).length with hlt | hge
          · exact hlt
          · rw [List.getElem?_eq_none (by simpa using hge)] at hj; cases hj
        obtain ⟨ad', e, _, hc⟩ := hl j hj'
        injection e with e
        subst e
        rw [hc, ← hj]
        simp [hj']) (by rw [hlen]; simp [Pol.len_vals]; omega) (fun v hv => by simp at hv; obtain ⟨y, _, rfl⟩ := hv; rfl)
    rw [hlen] at hrun
    refine ⟨_, hrun, ?_, fun B w0 hb hB => below_setRow hb hB _⟩
    unfold Row
    rw [setRow_heap w1 g _ _ 3 (0, 0) hr]
    congr 3
    rw [Pol.vals_append, ints, ints, ints, List.map_append]
    simp [Pol.vals]

theorem code2_ok (p q : List Fp.F) (hp : p.length ≤ 12) (hq : q.length ≤ 12) : Pol.code2 (Pol.vals p) (Pol.vals q) = 0 := by
  unfold Pol.code2
  rw [if_pos (Pol.code_vals p hp), Pol.code_vals q hq]
theorem checkBoth_ok (A B : Option Addr) (p q : List Fp.F) (c d : Nat) (w : World) (ha : Lies w A (Pol.vals p)) (hb : Lies w B (Pol.vals q)) (hp : p.length ≤ 12) (hq : q.length ≤ 12) :
    Calls Tryd.prog 55 #[.slice A p.length c, .slice B q.length d] w fun e w' => e = .returned .nilIface ∧ w = w' := by
  have h := pcheckBoth_any A B (Pol.vals p) (Pol.vals q) c d w ha hb
  rw [Pol.len_vals, Pol.len_vals, code2_ok p q hp hq] at h
  exact h
theorem code2_some (l m : List Int) (h : Pol.code2 l m ≠ 0) : Pol.code2 l m = 1 ∨ Pol.code2 l m = 4 := by
  unfold Pol.code2 at *
  have h1 := Pol.code_some l
  have h2 := Pol.code_some m
  split <;> simp_all

set_option maxRecDepth 100000 in
theorem add_bad (A B : Option Addr) (l m : List Int) (c d : Nat) (w : World) (ha : Lies w A l) (hb : Lies w B m)
    (h : Pol.code2 l m ≠ 0) :
    Calls Tryd.prog 38 #[.slice A l.length c, .slice B m.length d] w fun e w' => Fails (Pol.code2 l m) w e w' := by
  have C := Lib.hid (pcheckBoth_any A B l m c d w ha hb)
  have hs := code2_some l m h
  clear h ha hb
  generalize Pol.code2 l m = x at *
  generalize l.length = n at *
  generalize m.length = q at *
  rcases hs with rfl | rfl
  · go_enter Tryd.func38, Tryd.ntmps38
    go_wp2_with fail
    refine (C.out).mono ?_; rintro e w' ⟨rfl, rfl⟩
    rw [show errOf 1 = .iface 43 (.int .i64 1) from rfl]
    go_wp2_with fail
    go_ret2
    exact ⟨rfl, Kp.rfl' _⟩
  · go_enter Tryd.func38, Tryd.ntmps38
    go_wp2_with fail
    refine (C.out).mono ?_; rintro e w' ⟨rfl, rfl⟩
    rw [show errOf 4 = .iface 43 (.int .i64 4) from rfl]
    go_wp2_with fail
    go_ret2
    exact ⟨rfl, Kp.rfl' _⟩

set_option maxRecDepth 100000 in
theorem mul_bad (A B : Option Addr) (l m : List Int) (c d : Nat) (w : World) (ha : Lies w A l) (hb : Lies w B m)
    (h : Pol.code2 l m ≠ 0) :
    Calls Tryd.prog 36 #[.slice A l.length c, .slice B m.length d] w fun e w' => Fails (Pol.code2 l m) w e w' := by
  have C := Lib.hid (pcheckBoth_any A B l m c d w ha hb)
  have hs := code2_some l m h
  clear h ha hb
  generalize Pol.code2 l m = x at *
  generalize l.length = n at *
  generalize m.length = q at *
  rcases hs with rfl | rfl
  · go_enter Tryd.func36, Tryd.ntmps36
    go_wp2_with fail
    refine (C.out).mono ?_; rintro e w' ⟨rfl, rfl⟩
    rw [show errOf 1 = .iface 43 (.int .i64 1) from rfl]
    go_wp2_with fail
    go_ret2
    exact ⟨rfl, Kp.rfl' _⟩
  · go_enter Tryd.func36, Tryd.ntmps36
    go_wp2_with fail
    refine (C.out).mono ?_; rintro e w' ⟨rfl, rfl⟩
    rw [show errOf 4 = .iface 43 (.int .i64 4) from rfl]
    go_wp2_with fail
    go_ret2
    exact ⟨rfl, Kp.rfl' _⟩

set_option maxRecDepth 100000 in
set_option maxHeartbeats 1600000 in
theorem mul_ok (A B : Option Addr) (p q : List Fp.F) (c d : Nat) (w : World) (ha : Lies w A (Pol.vals p)) (hb : Lies w B (Pol.vals q)) (hp : p.length ≤ 12) (hq : q.length ≤ 12) :
    Calls Tryd.prog 36 #[.slice A p.length c, .slice B q.length d] w fun e w' => Gives (Pol.mul p q) w e w' := by
  have C := Lib.hid (checkBoth_ok A B p q c d w ha hb hp hq)
  have HA := Lib.hid ha
  have HB := Lib.hid hb
  obtain ⟨n, hn⟩ : ∃ n, n = p.length := ⟨_, rfl⟩
  obtain ⟨m, hm⟩ : ∃ m, m = q.length := ⟨_, rfl⟩
  rw [← hn] at hp C ⊢
  rw [← hm] at hq C ⊢
  have HN := Lib.hid hn
  have HM := Lib.hid hm
  clear ha hb hn hm
  obtain ⟨i0, hi, hz0, hz1, hz2⟩ := info_parts int_info
  go_enter Tryd.func36, Tryd.ntmps36
  go_wp2_with fail
  refine (C.out).mono ?_; rintro e w' ⟨rfl, rfl⟩
  go_wp2_with (at_make; refine wpList_make_full _ rfl _ _ 24 rfl w.heap.size 3 i0 (.int .i64 0) 1 Tryd.underlying24 hi hz0 hz1 _ _ _ _ (n + m) rfl rfl (by simp) (by simp) (by rw [hz2]; omega) (by unfold maxLen; omega) (Nat.le_refl _) ?_; intro w1 hown hgrow)
  have hrow : Row w1 w.heap.size (Pol.vals (Pol.mulRows p q 0)) := by
    rw [Pol.mulRows, Pol.vals_zeros, ← HN.out, ← HM.out]; exact row_made hown
  have hkp : Kp w w1 := (Kp.rfl' w).grown hgrow (by simp) (fun k hk => by cases hk)
  clear hown hgrow hi hz0 hz1 hz2 C
  obtain ⟨g, hg⟩ : ∃ g, g = w.heap.size := ⟨_, rfl⟩
  rw [← hg] at hrow ⊢
  have HG := Lib.hid hg
  clear hg
  go_loopw [26] (fun i wr => ∃ k : Nat, k ≤ n ∧ i = .int .i64 (k : Int) ∧ Row wr g (Pol.vals (Pol.mulRows p q k)) ∧ Kp w wr) (fun i _ => n - (intOf i).toNat)
  case atStart => exact ⟨0, Nat.zero_le _, rfl, hrow, hkp⟩
  case round =>
    clear hrow hkp
    obtain ⟨k, hk, rfl, hr, hkp⟩ := hrel
    have HR := Lib.hid hr
    have HK := Lib.hid hkp
    clear hr hkp
    by_cases hlt : k < n
    · obtain ⟨ad, rfl, _, hc⟩ := (HA.out.keep HK.out) k (by rw [Pol.len_vals, ← HN.out]; exact hlt)
      rw [Pol.vals_at] at hc
      obtain ⟨a, ha⟩ : ∃ a, a = Pol.co p k := ⟨_, rfl⟩
      rw [← ha] at hc
      have HA1 := Lib.hid ha
      clear ha
      go_wp2_with fail
      go_loopw [33] (fun j wr' => ∃ t : Nat, t ≤ m ∧ j = .int .i64 (t : Int) ∧ Row wr' g (Pol.vals (Pol.addAt (Pol.mulRows p q k) a q k t)) ∧ Kp w wr') (fun j _ => m - (intOf j).toNat)
      case atStart => exact ⟨0, Nat.zero_le _, rfl, HR.out, HK.out⟩
      case round =>
        obtain ⟨t, ht, rfl, hr2, hkp2⟩ := hrel
        by_cases hlt2 : t < m
        · obtain ⟨bd, rfl, _, hd⟩ := (HB.out.keep hkp2) t (by rw [Pol.len_vals, ← HM.out]; exact hlt2)
          rw [Pol.vals_at] at hd
          obtain ⟨b, hb⟩ : ∃ b, b = Pol.co q t := ⟨_, rfl⟩
          rw [← hb] at hd
          have hlen : (Pol.vals (Pol.addAt (Pol.mulRows p q k) a q k t)).length = n + m := by rw [Pol.len_vals, Pol.len_addAt, Pol.len_mulRows, HN.out, HM.out]
          have hcell := hr2.cell (k + t) (by omega)
          have hfree := hr2.free (k + t)
          rw [Pol.vals_at] at hcell
          have HS := Lib.hid (show Pol.addAt (Pol.mulRows p q k) a q k (t + 1) = (Pol.addAt (Pol.mulRows p q k) a q k t).set (k + t) (Pol.co (Pol.addAt (Pol.mulRows p q k) a q k t) (k + t) + a * b) by rw [Pol.addAt, hb])
          have HR2 := Lib.hid hr2
          have HK2 := Lib.hid hkp2
          clear hr2 hkp2 hb hlen
          generalize Pol.co (Pol.addAt (Pol.mulRows p q k) a q k t) (k + t) = s at *
          have HV := Lib.hid (Pol.val_madd s a b)
          obtain ⟨p1, p2⟩ := prod_bound a b
          have s1 := Fp.val_bound s
          have a1 := Fp.val_bound a
          have b1 := Fp.val_bound b
          generalize (a.val : Int) = x at *
          generalize (b.val : Int) = y at *
          generalize (s.val : Int) = v at *
          go_wp2_with fail
          go_roundw
          case rel =>
            refine ⟨t + 1, by omega, by go_num, ?_, HK2.out.put (p := ⟨g, k + t, none⟩) (by show w.heap.size ≤ g; rw [HG.out]; exact Nat.le_refl _) _⟩
            rw [HS.out, Pol.vals_set, HV.out]
            exact HR2.out.put _ _
          case measure => simp [intOf]; omega
        · have HR3 := Lib.hid (show Row wr g (Pol.vals (Pol.mulRows p q (k + 1))) by
            rw [Pol.mulRows, ← HA1.out, ← HM.out, show m = t by omega]; exact hr2)
          have HK2 := Lib.hid hkp2
          clear hr2 hkp2
          go_wp2_with fail
          go_roundw
          case rel => exact ⟨k + 1, by omega, by go_num, HR3.out, HK2.out⟩
          case measure => simp [intOf]; omega
    · obtain rfl : k = n := by omega
      have e := Lib.hid (show Pol.trim (Pol.mulRows p q k) = Pol.mul p q by
        have h := Pol.rows_mul p q (by have := HN.out; omega) (by have := HM.out; omega)
        rw [← HN.out] at h; exact h)
      have T := Lib.hid (trimmed_any (some ⟨g, 0, none⟩) (Pol.mulRows p q k) (k + m) wr HR.out.lies (by rw [Pol.len_mulRows, HN.out, HM.out]; exact Nat.le_refl _) (by rw [Pol.len_mulRows, ← HN.out, ← HM.out]; omega))
      rw [Pol.len_mulRows, ← HN.out, ← HM.out] at T
      go_wp2_with fail
      refine (T.out).mono ?_; rintro e w' ⟨rfl, rfl⟩
      go_wp2_with fail
      go_ret2
      exact ⟨some ⟨g, 0, none⟩, k + m, by rw [← e.out]; rfl, by rw [← e.out]; exact HR.out.trim, by rw [← e.out]; have := Pol.len_trim (Pol.mulRows p q k); rw [Pol.len_mulRows, ← HN.out, ← HM.out] at this; exact this, HK.out⟩

set_option maxRecDepth 100000 in
set_option maxHeartbeats 1600000 in
theorem add_ok (A B : Option Addr) (p q : List Fp.F) (c d : Nat) (w : World) (ha : Lies w A (Pol.vals p)) (hb : Lies w B (Pol.vals q)) (hp : p.length ≤ 12) (hq : q.length ≤ 12) :
    Calls Tryd.prog 38 #[.slice A p.length c, .slice B q.length d] w fun e w' => Gives (Pol.add p q) w e w' := by
  have C := Lib.hid (checkBoth_ok A B p q c d w ha hb hp hq)
  have HA := Lib.hid ha
  have HB := Lib.hid hb
  obtain ⟨n, hn⟩ : ∃ n, n = p.length := ⟨_, rfl⟩
  obtain ⟨m, hm⟩ : ∃ m, m = q.length := ⟨_, rfl⟩
  rw [← hn] at hp C ⊢
  rw [← hm] at hq C ⊢
  have HN := Lib.hid hn
  have HM := Lib.hid hm
  clear ha hb hn hm
  obtain ⟨i0, hi, hz0, hz1, hz2⟩ := info_parts int_info
  go_enter Tryd.func38, Tryd.ntmps38
  go_wp2_with fail
  refine (C.out).mono ?_; rintro e w' ⟨rfl, rfl⟩
  go_wp2_with (at_make; refine wpList_make_full _ rfl _ _ 24 rfl w.heap.size 3 i0 (.int .i64 0) 1 Tryd.underlying24 hi hz0 hz1 _ _ _ _ (max n m) rfl rfl (by omega) (by omega) (by rw [hz2]; omega) (by unfold maxLen; omega) (Nat.le_refl _) ?_; intro w1 hown hgrow; have hrow : Row w1 w.heap.size (Pol.vals (List.replicate (max n m) 0)) := (by rw [Pol.vals_zeros]; exact row_made hown); have hkp : Kp w w1 := (Kp.rfl' w).grown hgrow (by simp) (fun k hk => by cases hk); clear hown hgrow)
  all_goals
    obtain ⟨w2, hrun, hr2, hk2⟩ := copy_run w1 w.heap.size (max n m) n c A p 3 hrow (HA.out.keep hkp) HN.out (Nat.le_max_left n m)
    rw [hrun]
    clear hrun hi hz0 hz1 hz2 C
    have hkp2 : Kp w w2 := hk2 _ _ hkp (Nat.le_refl _)
    clear hrow hkp hk2
    obtain ⟨g, hg⟩ : ∃ g, g = w.heap.size := ⟨_, rfl⟩
    rw [← hg] at hr2 ⊢
    have HG := Lib.hid hg
    clear hg
    obtain ⟨N, hN⟩ : ∃ N, N = max n m := ⟨_, rfl⟩
    rw [← hN] at hr2 ⊢
    have hNN : n ≤ N ∧ m ≤ N ∧ N ≤ 12 := by omega
    have HNN := Lib.hid hN
    clear hN
    have hl2 : (p ++ List.replicate (N - n) (0 : Fp.F)).length = N := by rw [List.length_append, List.length_replicate, ← HN.out]; omega
    obtain ⟨R, hR⟩ : ∃ R, R = p ++ List.replicate (N - n) (0 : Fp.F) := ⟨_, rfl⟩
    rw [← hR] at hr2 hl2
    have HR0 := Lib.hid hR
    have HL2 := Lib.hid hl2
    clear hR hl2
    go_wp2_with fail
    go_loopw [27] (fun i wr => ∃ k : Nat, k ≤ m ∧ i = .int .i64 (k : Int) ∧ Row wr g (Pol.vals (Pol.addAt R 1 q 0 k)) ∧ Kp w wr) (fun i _ => m - (intOf i).toNat)
    case atStart => exact ⟨0, Nat.zero_le _, rfl, hr2, hkp2⟩
    case round =>
      clear hr2 hkp2
      obtain ⟨t, ht, rfl, hr2, hkp2⟩ := hrel
      by_cases hlt2 : t < m
      · obtain ⟨bd, rfl, _, hd⟩ := (HB.out.keep hkp2) t (by rw [Pol.len_vals, ← HM.out]; exact hlt2)
        rw [Pol.vals_at] at hd
        obtain ⟨b, hb⟩ : ∃ b, b = Pol.co q t := ⟨_, rfl⟩
        rw [← hb] at hd
        have hlen : (Pol.vals (Pol.addAt R 1 q 0 t)).length = N := by rw [Pol.len_vals, Pol.len_addAt, HL2.out]
        have hcell := hr2.cell t (by omega)
        have hfree := hr2.free t
        rw [Pol.vals_at] at hcell
        have HS := Lib.hid (show Pol.addAt R 1 q 0 (t + 1) = (Pol.addAt R 1 q 0 t).set t (Pol.co (Pol.addAt R 1 q 0 t) t + b) by rw [Pol.addAt, hb, Nat.zero_add, Fin.one_mul])
        have HR2 := Lib.hid hr2
        have HK2 := Lib.hid hkp2
        clear hr2 hkp2 hb hlen
        generalize Pol.co (Pol.addAt R 1 q 0 t) t = s at *
        have HV := Lib.hid (Fp.add_val s b)
        have s1 := Fp.val_bound s
        have b1 := Fp.val_bound b
        generalize (b.val : Int) = y at *
        generalize (s.val : Int) = v at *
        go_wp2_with fail
        go_roundw
        case rel =>
          refine ⟨t + 1, by omega, by go_num, ?_, HK2.out.put (p := ⟨g, t, none⟩) (by show w.heap.size ≤ g; rw [HG.out]; exact Nat.le_refl _) _⟩
          rw [HS.out, Pol.vals_set, HV.out]
          exact HR2.out.put _ _
        case measure => simp [intOf]; omega
      · obtain rfl : t = m := by omega
        have HR2 := Lib.hid hr2
        have HK2 := Lib.hid hkp2
        clear hr2 hkp2
        have e := Lib.hid (show Pol.trim (Pol.addAt R 1 q 0 t) = Pol.add p q by
          have h := Pol.row_add p q (by have := HN.out; omega) (by have := HM.out; omega)
          rw [← HN.out, ← HM.out, ← HNN.out, ← HR0.out] at h; exact h)
        have T := Lib.hid (trimmed_any (some ⟨g, 0, none⟩) (Pol.addAt R 1 q 0 t) N wr HR2.out.lies (by rw [Pol.len_addAt, HL2.out]; exact Nat.le_refl _) (by rw [Pol.len_addAt, HL2.out]; omega))
        rw [Pol.len_addAt, HL2.out] at T
        go_wp2_with fail
        refine (T.out).mono ?_; rintro e w' ⟨rfl, rfl⟩
        go_wp2_with fail
        go_ret2
        exact ⟨some ⟨g, 0, none⟩, N, by rw [← e.out]; rfl, by rw [← e.out]; exact HR2.out.trim, by rw [← e.out]; have := Pol.len_trim (Pol.addAt R 1 q 0 t); rw [Pol.len_addAt, HL2.out] at this; exact this, HK2.out⟩

/-- The contracts, with the lengths as numbers. -/
theorem mul_ok' (A B : Option Addr) (p q : List Fp.F) (n m c d : Nat) (w : World) (ha : Lies w A (Pol.vals p)) (hb : Lies w B (Pol.vals q)) (hn : n = p.length) (hm : m = q.length) (hp : n ≤ 12) (hq : m ≤ 12) :
    Calls Tryd.prog 36 #[.slice A n c, .slice B m d] w fun e w' => Gives (Pol.mul p q) w e w' := by subst hn hm; exact mul_ok A B p q c d w ha hb hp hq
theorem add_ok' (A B : Option Addr) (p q : List Fp.F) (n m c d : Nat) (w : World) (ha : Lies w A (Pol.vals p)) (hb : Lies w B (Pol.vals q)) (hn : n = p.length) (hm : m = q.length) (hp : n ≤ 12) (hq : m ≤ 12) :
    Calls Tryd.prog 38 #[.slice A n c, .slice B m d] w fun e w' => Gives (Pol.add p q) w e w' := by subst hn hm; exact add_ok A B p q c d w ha hb hp hq
end Go.Proofs.YtologiinkilooaaDoor

/- Contracts of package poly, third part: divide. -/
namespace Go.Proofs.YtologiinkilooaaDoor
open Go.ChangeShapes Go.WideShapes Go.ChangeAt Go.RowKit
set_option linter.unusedVariables false

/-- The answer is two rows of factors, and no error. -/
def GivesTwo (q r : List Fp.F) (w : World) (e : Ending) (w' : World) : Prop :=
  ∃ A c B d, e = .returned (.tuple #[.slice A q.length c, .slice B r.length d, .nilIface]) ∧ Lies w' A (Pol.vals q) ∧ q.length ≤ c ∧ Lies w' B (Pol.vals r) ∧ r.length ≤ d ∧ Kp w w'

theorem msub_bound (t c : Fp.F) : 0 ≤ (9973 - (t.val : Int)) * (c.val : Int) ∧ (9973 - (t.val : Int)) * (c.val : Int) ≤ 99450756 := by
  have h1 := Fp.val_bound t
  have h2 := Fp.val_bound c
  have := Int.mul_le_mul (show 9973 - (t.val : Int) ≤ 9973 by omega) h2.2 h2.1 (by omega)
  exact ⟨Int.mul_nonneg (by omega) h2.1, by omega⟩

/-- What dividing keeps: so many places of the quotient are still to come. -/
structure Left (p g R Q : List Fp.F) (j : Nat) : Prop where
  lr : R.length = p.length
  lq : Q.length = p.length - (g.length - 1)
  eq : ∀ x, Pol.ev p x = Pol.ev g x * Pol.ev Q x + Pol.ev R x
  zr : ∀ k, j + (g.length - 1) ≤ k → Pol.co R k = 0
  zq : ∀ k, k < j → Pol.co Q k = 0

theorem co_zeros (n k : Nat) : Pol.co (List.replicate n 0) k = 0 := by
  unfold Pol.co
  rw [List.getD_eq_getElem?_getD, List.getElem?_replicate]
  split <;> rfl

theorem left_start (p g : List Fp.F) : Left p g p (List.replicate (p.length - (g.length - 1)) 0) (p.length - (g.length - 1)) :=
  ⟨rfl, List.length_replicate .., fun x => by rw [Pol.ev_zeros]; grind, fun k hk => Pol.co_out _ _ (by omega), fun k _ => co_zeros _ k⟩

theorem left_step (p g R Q : List Fp.F) (j : Nat) (hg : Pol.Tr g) (g0 : g ≠ []) (hj : j + 1 ≤ p.length - (g.length - 1)) (h : Left p g R Q (j + 1)) (t : Fp.F) (ht : t = Pol.co R (j + (g.length - 1)) * Fp.inv (Pol.top g)) :
    Left p g (Pol.addAt R (-t) g j g.length) (Q.set j t) j := by
  have l := List.length_pos_iff.2 g0
  have lr := h.lr
  have lq := h.lq
  have tg := Pol.top_ne hg g0
  refine ⟨by rw [Pol.len_addAt, lr], by rw [List.length_set, lq], fun x => ?_, fun k hk => ?_, fun k hk => ?_⟩
  · rw [Pol.ev_set _ _ _ _ (by omega), Pol.ev_addAt _ _ _ _ _ (by omega), List.take_length, h.zq j (by omega), h.eq]; grind
  · by_cases e : k = j + (g.length - 1)
    · have e1 := Pol.co_addAt_top R (-t) g j (g.length - 1) (by omega)
      rw [Nat.sub_add_cancel (by omega)] at e1
      rw [e, e1, ht]
      exact Pol.cancel _ _ _ (Fp.inv_mul tg)
    · rw [Pol.co_addAt_far _ _ _ _ _ _ (by omega) (by omega)]
      exact h.zr k (by omega)
  · rw [Pol.co_set _ _ _ _ (by omega), if_neg (by omega)]
    exact h.zq k (by omega)

theorem left_end (p g R Q : List Fp.F) (hp : Pol.Tr p) (hg : Pol.Tr g) (g0 : g ≠ []) (lp : p.length ≤ 1000) (lg : g.length ≤ 1000) (h : Left p g R Q 0) : Pol.Dv p g Q (Pol.trim R) := by
  have l := List.length_pos_iff.2 g0
  refine Pol.Dv.full hp hg lp lg g0 h.lq ?_ h.eq
  have := Pol.trim_short R (g.length - 1) fun k hk => h.zr k (by omega)
  omega

end Go.Proofs.YtologiinkilooaaDoor

/- Contracts of package poly, fourth part: monic, Div, Gcd, At. -/
namespace Go.Proofs.YtologiinkilooaaDoor
open Go.ChangeShapes Go.WideShapes Go.ChangeAt Go.RowKit
set_option linter.unusedVariables false

theorem Lies.trim {w : World} {A : Option Addr} {p : List Fp.F} (h : Lies w A (Pol.vals p)) : Lies w A (Pol.vals (Pol.trim p)) := by
  rw [Pol.trim_take, Pol.vals_take]; exact h.take _

/-- The last one alone. -/
theorem lies_last {w : World} {ad : Addr} {p : List Fp.F} {k : Nat} (hk : p.length = k + 1) (h : Lies w (some ad) (Pol.vals p)) : Lies w (some (ad.add k)) (Pol.vals [Pol.top p]) := fun j hj => by
  have hj0 : j = 0 := by simp [Pol.vals] at hj; exact hj
  subst hj0
  obtain ⟨ad', e, h1, h2⟩ := h k (by rw [Pol.len_vals]; omega)
  injection e with e
  subst e
  refine ⟨_, rfl, by rw [block_add]; exact h1, ?_⟩
  rw [add_add, Nat.add_zero, h2, Pol.vals_at, Pol.vals_at, Pol.co_zero, Pol.top, hk]
  rfl

/-- The answer is an error, and no rows. -/
def Fails2 (c : Nat) (w : World) (e : Ending) (w' : World) : Prop := e = .returned (.tuple #[.slice none 0 0, .slice none 0 0, errOf c]) ∧ Kp w w'

/-- What is wrong with a row and a place. -/
def atCode (l : List Int) (x : Int) : Nat := if Pol.code l = 0 then (if 0 ≤ x ∧ x ≤ 9972 then 0 else 1) else Pol.code l

end Go.Proofs.YtologiinkilooaaDoor

/- Contracts of slices.Index and slices.Contains at rows of integers: for all packages. -/
namespace Go.Proofs.YtologiinkilooaaDoor
open Go.ChangeShapes Go.WideShapes Go.ChangeAt Go.RowKit
set_option linter.unusedVariables false

/-- A number occurs among the first. -/
def Occurs (l : List Int) (n : Nat) (v : Int) : Prop := ∃ j, j < n ∧ l.getD j 0 = v
/-- An index where it occurs, or -1. -/
def Idx (P : Prop) (e : Ending) : Prop := (P ∧ ∃ k : Nat, e = .returned (.int .i64 (k : Int))) ∨ (¬ P ∧ e = .returned (.int .i64 (-1)))

set_option maxHeartbeats 800000 in
theorem index_any (A : Option Addr) (l : List Int) (n c : Nat) (v : Int) (w : World) (hl : Lies w A l) (hn : n ≤ l.length) (ln : n ≤ 1000000) :
    Calls Tryd.prog 77 #[.slice A n c, .int .i64 v] w fun e w' => Idx (Occurs l n v) e ∧ w = w' := by
  have HL := Lib.hid hl
  have HN := Lib.hid hn
  clear hl hn
  go_enter Tryd.func77, Tryd.ntmps77
  go_wp2_with fail
  go_loop [8] (fun i => ∃ k : Nat, k ≤ n ∧ i = .int .i64 (k : Int) ∧ ∀ j, j < k → l.getD j 0 ≠ v) (fun i => n - (intOf i).toNat)
  case atStart => exact ⟨0, Nat.zero_le _, rfl, fun j hj => absurd hj (by omega)⟩
  case round =>
    obtain ⟨k, hk, rfl, hg⟩ := hrel
    have HG := Lib.hid hg
    clear hg
    by_cases hlt : k < n
    · obtain ⟨ad, rfl, _, hc⟩ := HL.out k (by have := HN.out; omega)
      obtain ⟨m, hm⟩ : ∃ m, m = l.getD k 0 := ⟨_, rfl⟩
      rw [← hm] at hc
      by_cases h0 : v = m
      · have F := Lib.hid (show Occurs l n v from ⟨k, hlt, by rw [← hm, h0]⟩)
        have e0 : (v == m) = true := by rw [h0]; exact beq_self_eq_true m
        clear hm h0
        go_wp2_with fail
        go_ret
        exact ⟨.inl ⟨F.out, k, rfl⟩, rfl⟩
      · have GG := Lib.hid (show ∀ j, j < k + 1 → l.getD j 0 ≠ v from fun j hj => by
          by_cases e : j = k
          · subst e; rw [← hm]; exact fun h => h0 h.symm
          · exact HG.out j (by omega))
        have e0 : (v == m) = false := by rw [beq_eq_false_iff_ne]; exact h0
        clear hm h0
        go_wp2_with fail
        go_round
        case rel => exact ⟨k + 1, by omega, by go_num, GG.out⟩
        case measure => simp [intOf]; omega
    · have F := Lib.hid (show ¬ Occurs l n v from fun ⟨j, h1, h2⟩ => HG.out j (by omega) h2)
      go_wp2_with fail
      go_ret
      exact ⟨.inr ⟨F.out, rfl⟩, rfl⟩

theorem contains_any (A : Option Addr) (l : List Int) (n c : Nat) (v : Int) (w : World) (hl : Lies w A l) (hn : n ≤ l.length) (ln : n ≤ 1000000) :
    Calls Tryd.prog 70 #[.slice A n c, .int .i64 v] w fun e w' => Tells (Occurs l n v) e ∧ w = w' := by
  have H := Lib.hid (index_any A l n c v w hl hn ln)
  clear hl hn
  go_enter Tryd.func70, Tryd.ntmps70
  go_wp2_with fail
  refine (H.out).mono ?_; rintro e w' ⟨hi, rfl⟩
  rcases hi with ⟨hp, k, rfl⟩ | ⟨hp, rfl⟩
  · have HP := Lib.hid hp
    go_wp2_with fail
    go_ret
    exact ⟨.inl ⟨HP.out, by simp⟩, rfl⟩
  · have HP := Lib.hid hp
    go_wp2_with fail
    go_ret
    exact ⟨.inr ⟨HP.out, by simp⟩, rfl⟩

end Go.Proofs.YtologiinkilooaaDoor

/- Contracts of package ipol: Check, Steps, Through. -/
namespace Go.Proofs.YtologiinkilooaaDoor
open Go.ChangeShapes Go.WideShapes Go.ChangeAt Go.RowKit
set_option linter.unusedVariables false

set_option maxRecDepth 100000 in
theorem ipElement_any (n : Int) (w : World) (b : Bool) (hb : (decide (0 ≤ n) && decide (n ≤ 9972)) = b) :
    Calls Tryd.prog 69 #[.int .i64 n] w fun e w' => e = .returned (.bool b) ∧ w = w' := by
  have H := Lib.hid hb
  clear hb
  by_cases h1 : 0 ≤ n
  · go_enter Tryd.func69, Tryd.ntmps69
    go_wp2
    go_ret
    exact ⟨ret_bool (by rw [← H.out, decide_eq_true h1, Bool.true_and]; exact decide_eq_decide.2 (by omega)), rfl⟩
  · go_enter Tryd.func69, Tryd.ntmps69
    go_wp2
    go_ret
    exact ⟨ret_bool (by rw [← H.out, decide_eq_false (show ¬ 0 ≤ n by omega), Bool.false_and]), rfl⟩

set_option maxRecDepth 100000 in
theorem minus_el (a b : Fp.F) (w : World) :
    Calls Tryd.prog 37 #[el a, el b] w fun e w' => e = .returned (el (a - b)) ∧ w = w' := by
  have E := Lib.hid (show ((a.val : Int) - (b.val : Int) + 9973) % 9973 = ((a - b : Fp.F).val : Int) by
    rw [← Fp.ofInt_val]
    have h : Fp.ofInt ((a.val : Int) - (b.val : Int) + 9973) + b = a := by
      have := Fp.ofInt_add ((a.val : Int) - (b.val : Int) + 9973) (b.val : Int)
      rw [Fp.ofInt_self, show (a.val : Int) - (b.val : Int) + 9973 + (b.val : Int) = (a.val : Int) + 9973 by omega, Fp.ofInt_add, Fp.ofInt_self, show Fp.ofInt 9973 = 0 from rfl] at this
      rw [← this]; grind
    have : Fp.ofInt ((a.val : Int) - (b.val : Int) + 9973) = a - b := by rw [← h]; grind
    rw [this])
  have h1 := Fp.val_bound a
  have h2 := Fp.val_bound b
  unfold el
  generalize ((a - b : Fp.F).val : Int) = z at *
  generalize (a.val : Int) = x at *
  generalize (b.val : Int) = y at *
  go_enter Tryd.func37, Tryd.ntmps37
  go_wp2
  go_ret
  exact ⟨ret_int (by rw [E.out]), rfl⟩

/-- One of the first places comes twice. -/
def Twice (l : List Int) : Prop := ∃ i, i < l.length ∧ Occurs l i (l.getD i 0)
open Classical in
/-- What is wrong with points, as a number. -/
noncomputable def dcode (l m : List Int) : Nat :=
  if 6 < l.length then 4 else if m.length ≠ l.length then 3 else if ¬ (AllIn l 0 9972 ∧ AllIn m 0 9972) then 1 else if Twice l then 6 else 0
theorem dcode_some (l m : List Int) : dcode l m = 0 ∨ dcode l m = 1 ∨ dcode l m = 3 ∨ dcode l m = 4 ∨ dcode l m = 6 := by
  unfold dcode; split
  · simp
  · split
    · simp
    · split
      · simp
      · split <;> simp
theorem dcode_full {l m : List Int} (h : 6 < l.length) : dcode l m = 4 := by unfold dcode; rw [if_pos h]
theorem dcode_shape {l m : List Int} (h : ¬ 6 < l.length) (h1 : m.length ≠ l.length) : dcode l m = 3 := by unfold dcode; rw [if_neg h, if_pos h1]
theorem dcode_range {l m : List Int} (h : ¬ 6 < l.length) (h1 : m.length = l.length) (h2 : ¬ (AllIn l 0 9972 ∧ AllIn m 0 9972)) : dcode l m = 1 := by
  unfold dcode; rw [if_neg h, if_neg (fun e => e h1), if_pos h2]
theorem dcode_twice {l m : List Int} (h : ¬ 6 < l.length) (h1 : m.length = l.length) (h2 : AllIn l 0 9972) (h3 : AllIn m 0 9972) (h4 : Twice l) : dcode l m = 6 := by
  unfold dcode; rw [if_neg h, if_neg (fun e => e h1), if_neg (fun e => e ⟨h2, h3⟩), if_pos h4]
theorem dcode_ok {l m : List Int} (h : ¬ 6 < l.length) (h1 : m.length = l.length) (h2 : AllIn l 0 9972) (h3 : AllIn m 0 9972) (h4 : ¬ Twice l) : dcode l m = 0 := by
  unfold dcode; rw [if_neg h, if_neg (fun e => e h1), if_neg (fun e => e ⟨h2, h3⟩), if_neg h4]

/-- A row of numbers that are elements. -/
theorem allIn_vals {l : List Int} (h : AllIn l 0 9972) : ∃ p : List Fp.F, l = Pol.vals p := by
  refine ⟨l.map Fp.ofInt, ?_⟩
  unfold Pol.vals
  rw [List.map_map]
  conv => lhs; rw [← List.map_id l]
  refine List.map_congr_left fun n hn => ?_
  obtain ⟨k, hk, rfl⟩ := List.mem_iff_getElem.1 hn
  have := h k hk
  rw [List.getD_eq_getElem?_getD, List.getElem?_eq_getElem hk] at this
  exact (Fp.ofInt_of _ this.1 this.2).symm
theorem vals_allIn (p : List Fp.F) : AllIn (Pol.vals p) 0 9972 := fun k _ => by rw [Pol.vals_at]; exact Fp.val_bound _

theorem dcode_zero {l m : List Int} (h : dcode l m = 0) : ∃ p q : List Fp.F, l = Pol.vals p ∧ m = Pol.vals q ∧ p.length ≤ 6 ∧ q.length = p.length ∧ Pol.Apart (Pol.co p) p.length := by
  by_cases h1 : 6 < l.length
  · rw [dcode_full h1] at h; cases h
  by_cases h2 : m.length = l.length
  · by_cases h3 : AllIn l 0 9972 ∧ AllIn m 0 9972
    · by_cases h4 : Twice l
      · rw [dcode_twice h1 h2 h3.1 h3.2 h4] at h; cases h
      · obtain ⟨p, rfl⟩ := allIn_vals h3.1
        obtain ⟨q, rfl⟩ := allIn_vals h3.2
        rw [Pol.len_vals] at h1 h2
        rw [Pol.len_vals] at h2
        refine ⟨p, q, rfl, rfl, by omega, h2, fun i j hi hj e => h4 ⟨j, by rw [Pol.len_vals]; exact hj, i, hi, ?_⟩⟩
        rw [Pol.vals_at, Pol.vals_at, e]
    · rw [dcode_range h1 h2 h3] at h; cases h
  · rw [dcode_shape h1 h2] at h; cases h
theorem dcode_vals {p q : List Fp.F} (hp : p.length ≤ 6) (hq : q.length = p.length) (hX : Pol.Apart (Pol.co p) p.length) : dcode (Pol.vals p) (Pol.vals q) = 0 := by
  refine dcode_ok (by rw [Pol.len_vals]; omega) (by rw [Pol.len_vals, Pol.len_vals]; exact hq) (vals_allIn p) (vals_allIn q) fun ⟨i, hi, j, hj, e⟩ => ?_
  rw [Pol.len_vals] at hi
  rw [Pol.vals_at, Pol.vals_at] at e
  exact hX j i hj hi (Fp.val_inj e)

set_option maxRecDepth 100000 in
theorem ipCheck_full (A B : Option Addr) (l m : List Int) (c d : Nat) (w : World) (h : 6 < l.length) :
    Calls Tryd.prog 54 #[.slice A l.length c, .slice B m.length d] w fun e w' => e = .returned (errOf (dcode l m)) ∧ w = w' := by
  rw [dcode_full h]
  generalize l.length = n at *
  generalize m.length = q at *
  have h' : (6 : Int) < n := by omega
  go_enter Tryd.func54, Tryd.ntmps54
  go_wp2
  go_ret
  exact ⟨rfl, rfl⟩
set_option maxRecDepth 100000 in
theorem ipCheck_shape (A B : Option Addr) (l m : List Int) (c d : Nat) (w : World) (h : ¬ 6 < l.length) (h1 : m.length ≠ l.length) :
    Calls Tryd.prog 54 #[.slice A l.length c, .slice B m.length d] w fun e w' => e = .returned (errOf (dcode l m)) ∧ w = w' := by
  rw [dcode_shape h h1]
  generalize l.length = n at *
  generalize m.length = q at *
  have h' : ¬ (6 : Int) < n := by omega
  have h2 : ((q : Int) != (n : Int)) = true := by simp; omega
  clear h h1
  go_enter Tryd.func54, Tryd.ntmps54
  go_wp2
  go_ret
  exact ⟨rfl, rfl⟩

set_option maxRecDepth 100000 in
set_option maxHeartbeats 1600000 in
theorem ipCheck_main (A B : Option Addr) (l m : List Int) (c d : Nat) (w : World) (ha : Lies w A l) (hb : Lies w B m) (hc : l.length ≤ c) (h : ¬ 6 < l.length) (h1 : m.length = l.length) :
    Calls Tryd.prog 54 #[.slice A l.length c, .slice B l.length d] w fun e w' => e = .returned (errOf (dcode l m)) ∧ w = w' := by
  have HA := Lib.hid ha
  have HB := Lib.hid hb
  have RNG := Lib.hid (fun h2 => dcode_range h h1 h2)
  have TWI := Lib.hid (fun h2 h3 h4 => dcode_twice h h1 h2 h3 h4)
  have OKS := Lib.hid (fun h2 h3 h4 => dcode_ok h h1 h2 h3 h4)
  obtain ⟨v, hv⟩ : ∃ v, v = dcode l m := ⟨_, rfl⟩
  rw [← hv] at RNG TWI OKS ⊢
  obtain ⟨n, hn⟩ : ∃ n, n = l.length := ⟨_, rfl⟩
  rw [← hn] at h h1 hc ⊢
  have HN := Lib.hid hn
  have HM := Lib.hid h1
  have h' : ¬ (6 : Int) < n := by omega
  clear ha hb hv hn h1
  go_enter Tryd.func54, Tryd.ntmps54
  go_wp2_with fail
  go_loop [20] (fun i => ∃ k : Nat, k ≤ n ∧ i = .int .i64 (k : Int) ∧ ∀ j, j < k → (0 ≤ l.getD j 0 ∧ l.getD j 0 ≤ 9972) ∧ (0 ≤ m.getD j 0 ∧ m.getD j 0 ≤ 9972)) (fun i => n - (intOf i).toNat)
  case atStart => exact ⟨0, Nat.zero_le _, rfl, fun j hj => absurd hj (by omega)⟩
  case round =>
    obtain ⟨k, hk, rfl, hg⟩ := hrel
    have HG := Lib.hid hg
    clear hg
    by_cases hlt : k < n
    · obtain ⟨ad, rfl, _, hcx⟩ := HA.out k (by have := HN.out; omega)
      obtain ⟨bd, rfl, _, hcy⟩ := HB.out k (by have := HM.out; omega)
      obtain ⟨x, hx⟩ : ∃ x, x = l.getD k 0 := ⟨_, rfl⟩
      obtain ⟨y, hy⟩ : ∃ y, y = m.getD k 0 := ⟨_, rfl⟩
      rw [← hx] at hcx
      rw [← hy] at hcy
      by_cases x1 : 0 ≤ x ∧ x ≤ 9972
      · have EX := Lib.hid (ipElement_any x w true (by simp; omega))
        by_cases y1 : 0 ≤ y ∧ y ≤ 9972
        · have EY := Lib.hid (ipElement_any y w true (by simp; omega))
          have GG := Lib.hid (show ∀ j, j < k + 1 → (0 ≤ l.getD j 0 ∧ l.getD j 0 ≤ 9972) ∧ (0 ≤ m.getD j 0 ∧ m.getD j 0 ≤ 9972) from fun j hj => by
            by_cases e : j = k
            · subst e; rw [← hx, ← hy]; exact ⟨x1, y1⟩
            · exact HG.out j (by omega))
          clear hx hy x1 y1
          go_wp2_with fail
          refine (EX.out).mono ?_; rintro e w' ⟨rfl, rfl⟩
          go_wp2_with fail
          refine (EY.out).mono ?_; rintro e w' ⟨rfl, rfl⟩
          go_wp2_with fail
          go_round
          case rel => exact ⟨k + 1, by omega, by go_num, GG.out⟩
          case measure => simp [intOf]; omega
        · have EY := Lib.hid (ipElement_any y w false (by simp; omega))
          have E := Lib.hid (RNG.out fun hh => y1 (by have := hh.2 k (by have := HM.out; omega); rw [← hy] at this; exact this))
          clear hx hy x1 y1
          go_wp2_with fail
          refine (EX.out).mono ?_; rintro e w' ⟨rfl, rfl⟩
          go_wp2_with fail
          refine (EY.out).mono ?_; rintro e w' ⟨rfl, rfl⟩
          go_wp2_with fail
          go_ret
          exact ⟨by rw [E.out]; rfl, rfl⟩
      · have EX := Lib.hid (ipElement_any x w false (by simp; omega))
        have E := Lib.hid (RNG.out fun hh => x1 (by have := hh.1 k (by have := HN.out; omega); rw [← hx] at this; exact this))
        clear hx hy x1
        go_wp2_with fail
        refine (EX.out).mono ?_; rintro e w' ⟨rfl, rfl⟩
        go_wp2_with fail
        go_ret
        exact ⟨by rw [E.out]; rfl, rfl⟩
    · have AX := Lib.hid (show AllIn l 0 9972 from fun j hj => (HG.out j (by have := HN.out; omega)).1)
      have AY := Lib.hid (show AllIn m 0 9972 from fun j hj => (HG.out j (by have := HM.out; omega)).2)
      go_wp2_with fail
      go_loop [41] (fun i => ∃ k : Nat, k ≤ n ∧ i = .int .i64 (k : Int) ∧ ∀ j, j < k → ¬ Occurs l j (l.getD j 0)) (fun i => n - (intOf i).toNat)
      case atStart => exact ⟨0, Nat.zero_le _, rfl, fun j hj => absurd hj (by omega)⟩
      case round =>
        obtain ⟨t, ht, rfl, hg2⟩ := hrel
        have HG2 := Lib.hid hg2
        clear hg2
        by_cases hlt2 : t < n
        · have CT := Lib.hid (contains_any A l t c (l.getD t 0) w HA.out (by have := HN.out; omega) (by omega))
          obtain ⟨ad, rfl, _, hcx⟩ := HA.out t (by have := HN.out; omega)
          have tc : (t : Int) ≤ (c : Int) := by omega
          have DN := Lib.hid (fun hno : ¬ Occurs l t (l.getD t 0) => show ∀ j, j < t + 1 → ¬ Occurs l j (l.getD j 0) from fun j hj => by
            by_cases e : j = t
            · subst e; exact hno
            · exact HG2.out j (by omega))
          have DY := Lib.hid (fun hy : Occurs l t (l.getD t 0) => TWI.out AX.out AY.out ⟨t, by have := HN.out; omega, hy⟩)
          obtain ⟨x, hx⟩ : ∃ x, x = l.getD t 0 := ⟨_, rfl⟩
          rw [← hx] at hcx CT DN DY
          clear hx
          go_wp2_with fail
          refine (CT.out).mono ?_; rintro e w' ⟨hte, rfl⟩
          rcases hte with ⟨hp, rfl⟩ | ⟨hp, rfl⟩
          · have E := Lib.hid (DY.out hp)
            clear hp
            go_wp2_with fail
            go_ret
            exact ⟨by rw [E.out]; rfl, rfl⟩
          · have E := Lib.hid (DN.out hp)
            clear hp
            go_wp2_with fail
            go_round
            case rel => exact ⟨t + 1, by omega, by go_num, E.out⟩
            case measure => simp [intOf]; omega
        · have E := Lib.hid (OKS.out AX.out AY.out fun ⟨j, hj, ho⟩ => HG2.out j (by have := HN.out; omega) ho)
          go_wp2_with fail
          go_ret
          exact ⟨by rw [E.out]; rfl, rfl⟩

theorem ipCheck_any (A B : Option Addr) (l m : List Int) (c d : Nat) (w : World) (ha : Lies w A l) (hb : Lies w B m) (hc : l.length ≤ c) :
    Calls Tryd.prog 54 #[.slice A l.length c, .slice B m.length d] w fun e w' => e = .returned (errOf (dcode l m)) ∧ w = w' := by
  by_cases h : 6 < l.length
  · exact ipCheck_full A B l m c d w h
  · by_cases h1 : m.length = l.length
    · have := ipCheck_main A B l m c d w ha hb hc h h1
      rw [h1]; exact this
    · exact ipCheck_shape A B l m c d w h h1

set_option maxRecDepth 100000 in
theorem iclone_any (A : Option Addr) (l : List Int) (c : Nat) (w : World) (hl : Lies w A l) (hn : l.length ≤ 1000000) :
    Calls Tryd.prog 53 #[.slice A l.length c] w fun e w' => SomeRow l w e w' := by
  have HL := Lib.hid hl
  have q22 : ∀ (w : World) (a : Option Addr) (n c n' c' : Nat), (binOp .eql 24 (.slice a n c) (.slice none n' c')).run Tryd.prog w = .ok (.bool a.isNone) w := fun w a n c n' c' => Lib.run_eql_slice_nil w _ _ a n c n' c' Tryd.underlying24
  rcases A with _ | ad
  · obtain rfl : l = [] := by
      rcases Nat.eq_zero_or_pos l.length with h0 | h0
      · exact List.eq_nil_of_length_eq_zero h0
      · obtain ⟨ad, h, _⟩ := hl 0 h0; cases h
    clear hl
    go_enter Tryd.func53, Tryd.ntmps53
    go_wp2_with fail
    go_ret
    exact ⟨_, rfl, Own.none _ _, Kp.rfl' _⟩
  · clear hl
    have hm : Own (w.alloc (.cells #[] 3)) w.heap.size (.slice (some ⟨w.heap.size, 0, none⟩) 0 0) [] := World.ownsRow_made w #[] 0 (Nat.le_refl _) (Nat.zero_le _) rfl
    have HM := Lib.hid hm
    have HK := Lib.hid ((Kp.rfl' w).new (.cells #[] 3))
    clear hm
    go_enter Tryd.func53, Tryd.ntmps53
    go_wp2_with (at_builtin; refine wpList_cat rfl _ _ rfl w.heap.size _ [] l (some ad) l.length c rfl rfl rfl HM.out (HL.out.keep HK.out) (by simp; omega) (by simp) ?_; intro v' w' h1 h2 _)
    have HO := Lib.hid h1
    have HK' := Lib.hid (own_below HM.out HK.out (by simp) h2)
    clear h1 h2
    go_wp2_with fail
    go_ret
    exact ⟨v', rfl, HO.out, HK'.out⟩

end Go.Proofs.YtologiinkilooaaDoor

/- Contracts of package ipol, second part: Steps, Through. -/
namespace Go.Proofs.YtologiinkilooaaDoor
open Go.ChangeShapes Go.WideShapes Go.ChangeAt Go.RowKit
set_option linter.unusedVariables false

/-- The row of the divided differences. -/
def stepRow (p q : List Fp.F) : List Fp.F := Pol.row p.length (fun k => Pol.dd (Pol.co p) (Pol.co q) k 0)
theorem len_stepRow (p q : List Fp.F) : (stepRow p q).length = p.length := Pol.len_row _ _
theorem co_stepRow (p q : List Fp.F) (k : Nat) (h : k < p.length) : Pol.co (stepRow p q) k = Pol.dd (Pol.co p) (Pol.co q) k 0 := Pol.co_row _ _ k h

set_option maxRecDepth 100000 in
theorem steps_bad (A B : Option Addr) (l m : List Int) (c d : Nat) (w : World) (ha : Lies w A l) (hb : Lies w B m) (hc : l.length ≤ c) (h : dcode l m ≠ 0) :
    Calls Tryd.prog 35 #[.slice A l.length c, .slice B m.length d] w fun e w' => Fails (dcode l m) w e w' := by
  have C := Lib.hid (ipCheck_any A B l m c d w ha hb hc)
  unfold Fails
  have e := errOf_ne _ h
  rw [e] at C ⊢
  clear e h ha hb hc
  generalize dcode l m = x at *
  generalize l.length = n at *
  generalize m.length = q at *
  go_enter Tryd.func35, Tryd.ntmps35
  go_wp2_with fail
  refine (C.out).mono ?_; rintro e w' ⟨rfl, rfl⟩
  go_wp2_with fail
  go_ret2
  exact ⟨rfl, Kp.rfl' _⟩

set_option maxRecDepth 100000 in
set_option maxHeartbeats 3200000 in
theorem steps_ok (A B : Option Addr) (p q : List Fp.F) (n c d : Nat) (w : World) (ha : Lies w A (Pol.vals p)) (hb : Lies w B (Pol.vals q)) (hn : n = p.length) (hq : n = q.length) (ln : n ≤ 6) (hc : n ≤ c) (hX : Pol.Apart (Pol.co p) n) :
    Calls Tryd.prog 35 #[.slice A n c, .slice B n d] w fun e w' => Gives (stepRow p q) w e w' := by
  have C := Lib.hid (by
    have h := ipCheck_any A B (Pol.vals p) (Pol.vals q) c d w ha hb (by rw [Pol.len_vals]; omega)
    rw [dcode_vals (by omega) (by omega) (by rw [← hn]; exact hX), Pol.len_vals, Pol.len_vals, ← hn, ← hq] at h
    exact h)
  rw [errOf_zero] at C
  have CL := Lib.hid (by
    have h := iclone_any B (Pol.vals q) d w hb (by rw [Pol.len_vals]; omega)
    rw [Pol.len_vals, ← hq] at h
    exact h)
  have HA := Lib.hid ha
  have HN := Lib.hid hn
  have HQ := Lib.hid hq
  have HX := Lib.hid hX
  have HC := Lib.hid hc
  have ROW := Lib.hid (show stepRow p q = Pol.row n (fun k => Pol.dd (Pol.co p) (Pol.co q) k 0) by rw [hn]; rfl)
  clear ha hb hn hq hX hc
  go_enter Tryd.func35, Tryd.ntmps35
  go_wp2_with fail
  refine (C.out).mono ?_; rintro e w' ⟨rfl, rfl⟩
  go_wp2_with fail
  refine (CL.out).mono ?_; rintro e w1 ⟨v, rfl, hown, hkp⟩
  have HK1 := Lib.hid hkp
  obtain ⟨A1, c1, rfl, hl1, hc1⟩ := hown.cap
  rw [Pol.len_vals, ← HQ.out] at hc1
  have ev1 : (Pol.vals q).length = n := by rw [Pol.len_vals, ← HQ.out]
  rw [ev1] at hown ⊢
  have HO0 := Lib.hid (show Own w1 w.heap.size (.slice A1 n c1) (Pol.vals (Pol.row n (Pol.tab (Pol.co p) (Pol.co q) 0))) by
    have e : Pol.row n (Pol.tab (Pol.co p) (Pol.co q) 0) = q := by
      rw [Pol.row_ext n _ (Pol.co q) (fun k _ => Pol.tab_zero _ _ k), HQ.out, Pol.row_self]
    rw [e]; exact hown)
  have HC1 := Lib.hid hc1
  clear hown hkp hl1 C CL ev1 hc1
  go_wp2_with fail
  go_loopw [8] (fun i wr => ∃ o : Nat, o + 1 ≤ max n 1 ∧ i = .int .i64 ((o : Int) + 1) ∧ Own wr w.heap.size (.slice A1 n c1) (Pol.vals (Pol.row n (Pol.tab (Pol.co p) (Pol.co q) o))) ∧ Kp w wr) (fun i _ => n + 1 - (intOf i).toNat)
  case atStart => exact ⟨0, by omega, rfl, HO0.out, HK1.out⟩
  case round =>
    obtain ⟨o, ho, rfl, hown, hkp⟩ := hrel
    have HO := Lib.hid hown
    have HK := Lib.hid hkp
    clear hown hkp
    by_cases hlt : o + 1 < n
    · have hso := own_some HO.out (by rw [Pol.len_vals, Pol.len_row]; omega)
      obtain ⟨g, c', e, hg, hcx⟩ := hso
      injection e with e1 e2 e3
      subst e1
      have HG := Lib.hid hg
      clear hg hcx e2 e3
      obtain ⟨n', hn'⟩ : ∃ n', n = n' + 1 := ⟨n - 1, by omega⟩
      have HN' := Lib.hid hn'
      clear hn'
      go_wp2_with fail
      go_loopw [9] (fun j wr' => ∃ i : Nat, o ≤ i ∧ i + 1 ≤ n ∧ j = .int .i64 (i : Int) ∧ Own wr' w.heap.size (.slice (some ⟨g, 0, none⟩) n c1) (Pol.vals (Pol.row n (Pol.mid (Pol.co p) (Pol.co q) o i))) ∧ Kp w wr') (fun j _ => (intOf j).toNat)
      case atStart => exact ⟨n', by have := HN'.out; omega, by have := HN'.out; omega, by rw [show (n : Int) - 1 = (n' : Int) by have := HN'.out; omega], by
        have e := HO.out
        rw [← Pol.mid_start, show n - 1 = n' by have := HN'.out; omega] at e
        exact e, HK.out⟩
      case round =>
        obtain ⟨i, hi, hi2, rfl, hown2, hkp2⟩ := hrel
        by_cases hge : o + 1 ≤ i
        · obtain ⟨j, hj⟩ : ∃ j, i = j + o + 1 := ⟨i - (o + 1), by omega⟩
          obtain ⟨i0, hi0⟩ : ∃ i0, i0 = j + o := ⟨_, rfl⟩
          have hln : (Pol.vals (Pol.row n (Pol.mid (Pol.co p) (Pol.co q) o i))).length = n := by rw [Pol.len_vals, Pol.len_row]
          have s1 := own_cell hown2 i (by rw [hln]; omega)
          have s0 := own_cell hown2 i0 (by rw [hln]; omega)
          rw [Pol.vals_at, Pol.co_row _ _ _ (by omega), Pol.mid, if_neg (by omega)] at s1 s0
          have fr := own_free hown2 i
          obtain ⟨ad, rfl, _, x1⟩ := (HA.out.keep hkp2) i (by rw [Pol.len_vals, ← HN.out]; omega)
          obtain ⟨ad', ee, _, x0⟩ := (HA.out.keep hkp2) j (by rw [Pol.len_vals, ← HN.out]; omega)
          injection ee with ee
          subst ee
          rw [Pol.vals_at] at x1 x0
          have ne := Pol.sub_ne (HX.out.ne (i := i) (j := j) (by omega) (by omega) (by omega))
          have ST := Lib.hid (show Pol.vals (Pol.row n (Pol.mid (Pol.co p) (Pol.co q) o i0)) = (Pol.vals (Pol.row n (Pol.mid (Pol.co p) (Pol.co q) o i))).set i ((Pol.tab (Pol.co p) (Pol.co q) (o + 1) i).val : Int) by
            have h := Pol.row_mid (Pol.co p) (Pol.co q) n o i (by omega) (by omega)
            rw [show i - 1 = i0 by omega] at h
            rw [← h, Pol.vals_set])
          have TS := Lib.hid (Pol.tab_step (Pol.co p) (Pol.co q) o i (by omega))
          rw [show i - (o + 1) = j by omega, show i - 1 = i0 by omega] at TS
          have PUT := Lib.hid (fun (m : Nat) (x : Int) => own_put (hown2.drewN m) i x)
          have HK2 := Lib.hid hkp2
          have f1 : i < n := by omega
          have f2 : i0 < n := by omega
          have f3 : j < n := by omega
          have e1 : (i : Int) - 1 = (i0 : Int) := by omega
          have e2 : (i : Int) - ((o : Int) + 1) = (j : Int) := by omega
          have HI0 := Lib.hid hi0
          have HJ := Lib.hid hj
          clear hown2 hkp2 hln hi0 hj
          generalize Pol.co p i = a1 at *
          generalize Pol.co p j = a0 at *
          generalize Pol.tab (Pol.co p) (Pol.co q) o i = b1 at *
          generalize Pol.tab (Pol.co p) (Pol.co q) o i0 = b0 at *
          have MB := Lib.hid (fun w => minus_el b1 b0 w)
          have MA := Lib.hid (fun w => minus_el a1 a0 w)
          have DV := Lib.hid (fun w => div_el (b1 - b0) (a1 - a0) w ne)
          rw [← TS.out] at DV
          clear TS ne
          unfold el at *
          generalize ((Pol.tab (Pol.co p) (Pol.co q) (o + 1) i).val : Int) = z at *
          generalize ((b1 - b0).val : Int) = db at *
          generalize ((a1 - a0).val : Int) = da at *
          generalize (a1.val : Int) = va1 at *
          generalize (a0.val : Int) = va0 at *
          generalize (b1.val : Int) = vb1 at *
          generalize (b0.val : Int) = vb0 at *
          go_wp2_with fail
          go_quiet ((first
            | (with_reducible exact quiet_here (MB.out _))
            | (with_reducible exact quiet_more (MB.out _))
            | (with_reducible exact quiet_here (MA.out _))
            | (with_reducible exact quiet_more (MA.out _))
            | (with_reducible exact quiet_drew (DV.out _))
            | (with_reducible exact quiet_drew_more (DV.out _))))
          go_wp2_with fail
          go_roundw
          case rel =>
            have h1 := HJ.out
            have h0 := HI0.out
            exact ⟨i0, by omega, by omega, rfl, by rw [ST.out]; exact PUT.out _ _, (HK2.out.drewN _).put (p := ⟨g, i, none⟩) HG.out _⟩
          case measure => simp [intOf]; omega
        · have e : i = o := by omega
          subst e
          have HO2 := Lib.hid (show Own wr w.heap.size (.slice (some ⟨g, 0, none⟩) n c1) (Pol.vals (Pol.row n (Pol.tab (Pol.co p) (Pol.co q) (i + 1)))) by
            rw [← Pol.mid_end]; exact hown2)
          have HK2 := Lib.hid hkp2
          clear hown2 hkp2
          go_wp2_with fail
          go_roundw
          case rel => exact ⟨i + 1, by omega, by go_num, HO2.out, HK2.out⟩
          case measure => simp [intOf]; omega
    · have E := Lib.hid (Pol.tab_end (Pol.co p) (Pol.co q) n o (by omega))
      obtain ⟨A2, c2, e, hl, hc2⟩ := HO.out.cap
      injection e with e1 e2 e3
      subst e1 e3
      rw [E.out, ← ROW.out] at hl
      rw [E.out, ← ROW.out] at hc2
      rw [Pol.len_vals] at hc2
      have HL := Lib.hid hl
      have HC2 := Lib.hid hc2
      have EL := Lib.hid (show n = (stepRow p q).length by rw [len_stepRow, HN.out])
      clear hl hc2 e2
      have hge : (n : Int) ≤ (o : Int) + 1 := by omega
      go_wp2_with fail
      go_ret2
      exact ⟨A1, c1, by rw [← EL.out]; rfl, HL.out, HC2.out, HK.out⟩

end Go.Proofs.YtologiinkilooaaDoor

/- Contracts of package ipol, third part: Through. -/
namespace Go.Proofs.YtologiinkilooaaDoor
open Go.ChangeShapes Go.WideShapes Go.ChangeAt Go.RowKit
set_option linter.unusedVariables false

set_option maxRecDepth 100000 in
theorem through_bad (A B : Option Addr) (l m : List Int) (c d : Nat) (w : World) (ha : Lies w A l) (hb : Lies w B m) (hc : l.length ≤ c) (h : dcode l m ≠ 0) :
    Calls Tryd.prog 21 #[.slice A l.length c, .slice B m.length d] w fun e w' => Fails (dcode l m) w e w' := by
  have C := Lib.hid (steps_bad A B l m c d w ha hb hc h)
  unfold Fails at *
  have e := errOf_ne _ h
  rw [e] at C ⊢
  clear e h ha hb hc
  generalize dcode l m = x at *
  generalize l.length = n at *
  generalize m.length = q at *
  go_enter Tryd.func21, Tryd.ntmps21
  go_wp2_with fail
  refine (C.out).mono ?_; rintro e w' ⟨rfl, hk⟩
  have HK := Lib.hid hk
  clear hk
  go_wp2_with fail
  go_ret2
  exact ⟨rfl, HK.out⟩

theorem minus_zero (a : Fp.F) (w : World) :
    Calls Tryd.prog 37 #[.int .i64 0, el a] w fun e w' => e = .returned (el (-a)) ∧ w = w' := by
  have h := minus_el 0 a w
  rw [show (0 : Fp.F) - a = -a by grind] at h
  exact h

/-- The rule of the divided differences. -/
def stp (p q : List Fp.F) (k : Nat) : Fp.F := Pol.dd (Pol.co p) (Pol.co q) k 0

theorem vals_two (a : Fp.F) : Pol.vals [a, 1] = [(a.val : Int), 1] := rfl
theorem vals_one (a : Fp.F) : Pol.vals [a] = [(a.val : Int)] := rfl

set_option maxRecDepth 100000 in
set_option maxHeartbeats 3200000 in
theorem through_ok (A B : Option Addr) (p q : List Fp.F) (n c d : Nat) (w : World) (ha : Lies w A (Pol.vals p)) (hb : Lies w B (Pol.vals q)) (hn : n = p.length) (hq : n = q.length) (ln : n ≤ 6) (hc : n ≤ c) (hX : Pol.Apart (Pol.co p) n) :
    Calls Tryd.prog 21 #[.slice A n c, .slice B n d] w fun e w' => Gives (Pol.thr (Pol.co p) (Pol.co q) n) w e w' := by
  have ST := Lib.hid (steps_ok A B p q n c d w ha hb hn hq ln hc hX)
  have HA := Lib.hid ha
  have HN := Lib.hid hn
  have HQ := Lib.hid hq
  clear ha hb hn hq hX hc
  go_enter Tryd.func21, Tryd.ntmps21
  go_wp2_with fail
  refine (ST.out).mono ?_; rintro e w1 ⟨A1, c1, rfl, hl1, hc1, hkp⟩
  rw [len_stepRow, ← HN.out] at hc1 ⊢
  have HL1 := Lib.hid hl1
  have HK1 := Lib.hid hkp
  clear hl1 hkp ST
  go_wp2_with fail
  go_loopw [8, 7, 9] (fun f err i wr => ∃ (m len c' : Nat) (A' : Option Addr) (z : Int), m ≤ n ∧ f = .slice A' len c' ∧ len = (Pol.hor (Pol.co p) (stp p q) n m).length ∧ Lies wr A' (Pol.vals (Pol.hor (Pol.co p) (stp p q) n m)) ∧ len ≤ c' ∧
      err = .nilIface ∧ i = .int .i64 z ∧ z = (n : Int) - 1 - (m : Int) ∧ Kp w1 wr) (fun _ _ i _ => (intOf i + 1).toNat)
  case atStart => exact ⟨0, 0, 0, Option.none, _, Nat.zero_le _, rfl, rfl, Lies.empty _ _, Nat.le_refl _, rfl, rfl, by omega, Kp.rfl' _⟩
  case round =>
    obtain ⟨m, len, c', A', z, hm, rfl, hlen, hlies, hc', rfl, rfl, hz, hkp⟩ := hrel
    have HLEN := Lib.hid hlen
    have HLI := Lib.hid hlies
    have HK := Lib.hid hkp
    have LB := Lib.hid (Pol.len_hor (Pol.co p) (stp p q) n m (by omega))
    clear hlen hlies hkp
    by_cases hlt : m < n
    · obtain ⟨k, hk⟩ : ∃ k, k = n - (m + 1) := ⟨_, rfl⟩
      obtain rfl : z = (k : Int) := by omega
      have hkn : k < n := by omega
      have HKM := Lib.hid hk
      have HZ := Lib.hid hz
      clear hz hk
      obtain ⟨ad, rfl, _, xc⟩ := (HA.out.keep (HK1.out.trans HK.out)) k (by rw [Pol.len_vals, ← HN.out]; exact hkn)
      rw [Pol.vals_at] at xc
      have hll : len ≤ 6 := by have := HLEN.out; have := LB.out; omega
      obtain ⟨a, haa⟩ : ∃ a, a = Pol.co p k := ⟨_, rfl⟩
      rw [← haa] at xc
      have MZ := Lib.hid (fun w => minus_zero a w)
      have MU := Lib.hid (fun (w' : World) (B' : Option Addr) (d' : Nat) (hw : Kp wr w') (hB : Lies w' B' (Pol.vals [-a, 1])) => mul_ok' A' B' (Pol.hor (Pol.co p) (stp p q) n m) [-a, 1] len 2 c' d' w' (HLI.out.keep hw) hB HLEN.out rfl (by omega) (by omega))
      obtain ⟨bd, rfl, hbb, yc⟩ := (HL1.out.keep HK.out) k (by rw [Pol.len_vals, len_stepRow, ← HN.out]; exact hkn)
      rw [Pol.vals_at, co_stepRow _ _ _ (by rw [← HN.out]; exact hkn)] at yc
      have HY := Lib.hid (show Lies wr (some (bd.add k)) (Pol.vals [stp p q k]) from fun j hj => by
        obtain rfl : j = 0 := by rw [Pol.len_vals] at hj; simp at hj; exact hj
        exact ⟨_, rfl, by rw [block_add]; exact hbb, by rw [add_add, Nat.add_zero, yc]; rfl⟩)
      have AD := Lib.hid (fun (w' : World) (A2 : Option Addr) (c2 d2 : Nat) (hw : Kp wr w') (hA : Lies w' A2 (Pol.vals (Pol.mul (Pol.hor (Pol.co p) (stp p q) n m) [-a, 1]))) =>
        add_ok' A2 (some (bd.add k)) (Pol.mul (Pol.hor (Pol.co p) (stp p q) n m) [-a, 1]) [stp p q k] _ 1 c2 d2 w' hA (HY.out.keep hw) rfl rfl (by have h1 : (Pol.mul (Pol.hor (Pol.co p) (stp p q) n m) [-a, 1]).length ≤ (Pol.hor (Pol.co p) (stp p q) n m).length + 2 := Pol.len_mul _ _; have := HLEN.out; omega) (by omega))
      have EQ := Lib.hid (show Pol.add (Pol.mul (Pol.hor (Pol.co p) (stp p q) n m) [-a, 1]) [stp p q k] = Pol.hor (Pol.co p) (stp p q) n (m + 1) by rw [Pol.hor, haa, HKM.out])
      have hkc : (k : Int) < (c1 : Int) := by omega
      have hkc2 : (k : Int) + 1 ≤ (c1 : Int) := by omega
      clear haa yc hbb
      unfold el at *
      generalize hv : (a.val : Int) = va at *
      generalize hv' : ((-a).val : Int) = vna at *
      have HV' := Lib.hid hv'
      clear hv hv'
      go_wp2_with fail
      refine (MZ.out _).mono ?_; rintro e w' ⟨rfl, rfl⟩
      go_wp2_with fail
      refine (MU.out _ _ _ ((Kp.rfl' wr).new _) (by rw [vals_two, HV'.out]; exact lies_new wr _ [vna, 1])).mono ?_; rintro e w2 ⟨A2, c2, rfl, hl2, hc2, hk2⟩
      have HL2 := Lib.hid hl2
      have HK2 := Lib.hid (((Kp.rfl' wr).new _).trans hk2)
      clear hl2 hc2 hk2 MU MZ
      go_wp2_with fail
      refine (AD.out _ _ _ _ HK2.out HL2.out).mono ?_; rintro e w3 ⟨A3, c3, rfl, hl3, hc3, hk3⟩
      rw [EQ.out] at hl3 hc3 ⊢
      have HL3 := Lib.hid hl3
      have HC3 := Lib.hid hc3
      have HK3 := Lib.hid (HK.out.trans (HK2.out.trans hk3))
      clear hl3 hc3 hk3 AD EQ
      go_wp2_with fail
      go_roundw
      case rel => exact ⟨m + 1, _, c3, A3, _, by omega, rfl, rfl, HL3.out, HC3.out, rfl, rfl, by have := HZ.out; omega, HK3.out⟩
      case measure => simp [intOf]
    · obtain rfl : m = n := by omega
      obtain rfl : z = -1 := by omega
      have E := Lib.hid (show Pol.hor (Pol.co p) (stp p q) m m = Pol.thr (Pol.co p) (Pol.co q) m from rfl)
      have HT := Lib.hid (HK1.out.trans HK.out)
      go_wp2_with fail
      go_ret2
      exact ⟨A', c', by rw [← E.out, ← HLEN.out]; rfl, by rw [← E.out]; exact HLI.out, by rw [← E.out, ← HLEN.out]; exact hc', HT.out⟩

end Go.Proofs.YtologiinkilooaaDoor
