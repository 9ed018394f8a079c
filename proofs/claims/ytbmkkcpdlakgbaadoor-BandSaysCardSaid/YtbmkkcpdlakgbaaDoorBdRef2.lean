/- Contracts of the document's Full. -/
import Derived.Test.YtbmkkcpdlakgbaaDoorBdRef
import Derived.Test.YtbmkkcpdlakgbaaDoorMxRef2
namespace Go.Proofs.YtbmkkcpdlakgbaaDoor
open Go.ChangeShapes Go.WideShapes Go.ChangeAt Go.RowKit
set_option linter.unusedVariables false

theorem bnd_cell (m a b : Nat → Fp.F) (k i : Nat) : ((Mx.bnd m a b k i).val : Int) = if i = k + 1 then ((a k).val : Int) else if i + 1 = k then ((b i).val : Int) else if i = k then ((m k).val : Int) else 0 := by
  unfold Mx.bnd
  by_cases h1 : k = i
  · rw [if_pos h1, if_neg (by omega), if_neg (by omega), if_pos h1.symm]
  · rw [if_neg h1]
    by_cases h2 : k + 1 = i
    · rw [if_pos h2, if_pos h2.symm]
    · rw [if_neg h2, if_neg (show ¬ i = k + 1 from fun e => h2 e.symm)]
      by_cases h3 : i + 1 = k
      · rw [if_pos h3, if_pos h3]
      · rw [if_neg h3, if_neg h3, if_neg (fun e => h1 e.symm)]; rfl

set_option maxRecDepth 100000 in
set_option maxHeartbeats 6400000 in
theorem rFull_any (A B C : Option Addr) (q c d f : Nat) (m a b : Nat → Fp.F) (w : World) (ha : Lies w A (rowF (q + 1) m)) (hb : Lies w B (rowF q a)) (hc : Lies w C (rowF q b)) (hq : q ≤ 9) :
    Calls Tryd.prog 7 #[.slice A (q + 1) c, .slice B q d, .slice C q f] w fun e w' => MadeOwn (q + 1) (q + 1) (Mx.bnd m a b) w e w' := by
  have HA := Lib.hid ha
  have HB := Lib.hid hb
  have HC := Lib.hid hc
  clear ha hb hc
  obtain ⟨n, hn⟩ : ∃ n, n = q + 1 := ⟨_, rfl⟩
  rw [← hn] at HA ⊢
  have HN := Lib.hid hn
  have hn10 : n ≤ 10 := by omega
  clear hn
  obtain ⟨i0, hi0, hz0, hz1, hz2⟩ := info_parts int_info
  go_enter Tryd.func7, Tryd.ntmps7
  go_wp2_with fail
  go_loopw [8, 9] (fun v i wr => ∃ (k : Nat) (G C : Nat → Nat), k ≤ n ∧ i = .int .i64 (k : Int) ∧ OwnM wr w.heap.size v G C (Mx.matl k n (Mx.bnd m a b)) ∧ Kp w wr) (fun _ i _ => n - (intOf i).toNat)
  case atStart => exact ⟨0, fun _ => 0, fun _ => 0, Nat.zero_le _, rfl, ownM_none _ _ _ _, Kp.rfl' _⟩
  case round =>
    obtain ⟨k, G, C', hk, rfl, ho, hkp⟩ := hrel
    have HO := Lib.hid ho
    have HK := Lib.hid hkp
    have hsz := hkp.size
    by_cases hlt : k < n
    · have HS := Lib.hid (show Mx.matl (k + 1) n (Mx.bnd m a b) = Mx.matl k n (Mx.bnd m a b) ++ [Mx.row n fun j => ((Mx.bnd m a b k j).val : Int)] by rw [Mx.matl, Mx.tab_snoc]; rfl)
      have HL := Lib.hid (show ∀ i, i < (Mx.matl k n (Mx.bnd m a b)).length → G i < wr.heap.size from fun i hi => (HO.out.lt hi).2)
      obtain ⟨ad, rfl, _, _⟩ := HA.out.el hlt
      have CA := Lib.hid (show ∀ w', Kp wr w' → w'.cell? (ad.add k) = some (.int .i64 ((m k).val : Int)) from fun w' k' => by
        obtain ⟨_, y, _, x⟩ := (HA.out.keep (HK.out.trans k')).el hlt
        cases y; exact x)
      clear ho hkp
      obtain ⟨gr, hgr⟩ : ∃ x, x = wr.heap.size := ⟨_, rfl⟩
      have hgB : w.heap.size ≤ gr := by omega
      have hgr2 : wr.heap.size ≤ gr := by omega
      have HGR := Lib.hid hgr
      clear hgr
      by_cases hk0 : 0 < k
      · obtain ⟨j, hkj⟩ : ∃ j, j + 1 = k := ⟨k - 1, by omega⟩
        have hkj0 : (0 : Int) < (k : Int) := by omega
        have hw1 : IntKind.i64.wrap ((k : Int) - 1) = (j : Int) := by rw [IntWalk.i64_in _ (by omega)]; omega
        have hjq : (j : Int) < (q : Int) := by have := HN.out; omega
        have hjn : (j : Int) < (n : Int) := by omega
        obtain ⟨cd0, rfl, _, _⟩ := HC.out.el (j := j) (by have := HN.out; omega)
        have CB := Lib.hid (show ∀ w', Kp wr w' → w'.cell? (cd0.add j) = some (.int .i64 ((b j).val : Int)) from fun w' k' => by
          obtain ⟨_, y, _, x⟩ := (HC.out.keep (HK.out.trans k')).el (j := j) (by have := HN.out; omega)
          cases y; exact x)
        by_cases hup : k + 1 < n
        · have hup1 : (k : Int) + 1 < (n : Int) := by omega
          have hkq : (k : Int) < (q : Int) := by have := HN.out; omega
          obtain ⟨bd0, rfl, _, _⟩ := HB.out.el (j := k) (by have := HN.out; omega)
          have CD := Lib.hid (show ∀ w', Kp wr w' → w'.cell? (bd0.add k) = some (.int .i64 ((a k).val : Int)) from fun w' k' => by
            obtain ⟨_, y, _, x⟩ := (HB.out.keep (HK.out.trans k')).el (j := k) (by have := HN.out; omega)
            cases y; exact x)
          have FACT := Lib.hid (show ∀ w2, Kp wr w2 → Row w2 gr (List.replicate n 0) → ((∃ v, w2.cell? ⟨gr, k, none⟩ = some v) ∧ w2.frozen? ⟨gr, k, none⟩ = false) ∧ ((∃ v, (w2.setCell ⟨gr, k, none⟩ (.int .i64 ((m k).val : Int))).cell? ⟨gr, j, none⟩ = some v) ∧ (w2.setCell ⟨gr, k, none⟩ (.int .i64 ((m k).val : Int))).frozen? ⟨gr, j, none⟩ = false) ∧ ((∃ v, ((w2.setCell ⟨gr, k, none⟩ (.int .i64 ((m k).val : Int))).setCell ⟨gr, j, none⟩ (.int .i64 ((b j).val : Int))).cell? ⟨gr, (k + 1), none⟩ = some v) ∧ ((w2.setCell ⟨gr, k, none⟩ (.int .i64 ((m k).val : Int))).setCell ⟨gr, j, none⟩ (.int .i64 ((b j).val : Int))).frozen? ⟨gr, (k + 1), none⟩ = false) ∧ Row (((w2.setCell ⟨gr, k, none⟩ (.int .i64 ((m k).val : Int))).setCell ⟨gr, j, none⟩ (.int .i64 ((b j).val : Int))).setCell ⟨gr, (k + 1), none⟩ (.int .i64 ((a k).val : Int))) gr (Mx.row n fun i => ((Mx.bnd m a b k i).val : Int)) ∧ Kp wr (((w2.setCell ⟨gr, k, none⟩ (.int .i64 ((m k).val : Int))).setCell ⟨gr, j, none⟩ (.int .i64 ((b j).val : Int))).setCell ⟨gr, (k + 1), none⟩ (.int .i64 ((a k).val : Int))) from fun w2 k2 r0 => by
            have r1 := r0.put k ((m k).val : Int)
            have r2 := r1.put j ((b j).val : Int)
            have r3 := r2.put (k + 1) ((a k).val : Int)
            refine ⟨⟨⟨_, r0.cell k (by simp; omega)⟩, r0.free _⟩, ⟨⟨_, r1.cell j (by simp; omega)⟩, r1.free _⟩, ⟨⟨_, r2.cell (k + 1) (by simp; omega)⟩, r2.free _⟩, ?_, ?_⟩
            · have e : ((((List.replicate n (0 : Int)).set k ((m k).val : Int)).set j ((b j).val : Int)).set (k + 1) ((a k).val : Int)) = Mx.row n fun i => ((Mx.bnd m a b k i).val : Int) := by
                rw [Mx.row_rep, Mx.row_set, Mx.row_set, Mx.row_set]
                refine Mx.row_ext fun i hi => ?_
                rw [bnd_cell]
                repeat' split
                all_goals first | rfl | omega | (subst_vars; rfl) | (exfalso; omega) | (have e9 : i = j := by omega; rw [e9])
              rw [← e]; exact r3
            · exact (((k2.put (p := ⟨gr, k, none⟩) hgr2 _).put (p := ⟨gr, j, none⟩) hgr2 _).put (p := ⟨gr, (k + 1), none⟩) hgr2 _))
          go_wp2_with (first
            | (at_make; refine wpList_make_full _ rfl _ _ 22 rfl wr.heap.size 3 i0 (.int .i64 0) 1 Tryd.underlying22 hi0 hz0 hz1 _ _ _ _ n rfl rfl rfl rfl (by rw [hz2]; omega) (by unfold maxLen; omega) (Nat.le_refl _) ?_; intro w2 hown hgrow; have kp2 : Kp wr w2 := (Kp.rfl' wr).grown hgrow (by simp) (fun k hk => by cases hk); have r0 := row_made hown; rw [← HGR.out] at r0 ⊢; obtain ⟨⟨⟨_, x1⟩, f1⟩, ⟨⟨_, x2⟩, f2⟩, ⟨⟨_, x3⟩, f3⟩, yr, yk⟩ := FACT.out w2 kp2 r0; have YR := Lib.hid yr; have YK := Lib.hid yk; have ca := CA.out w2 kp2; have cb := CB.out _ (kp2.put (p := ⟨gr, k, none⟩) hgr2 (.int .i64 ((m k).val : Int))); have cd := CD.out _ ((kp2.put (p := ⟨gr, k, none⟩) hgr2 (.int .i64 ((m k).val : Int))).put (p := ⟨gr, j, none⟩) hgr2 (.int .i64 ((b j).val : Int))); clear hown hgrow r0 yr yk kp2)
            | (at_builtin; refine wpList_pushM rfl _ _ rfl w.heap.size _ G C' (Mx.matl k n (Mx.bnd m a b)) _ gr n n _ 1 (Mx.len_row _ _) rfl rfl ((HO.out.kp YK.out).new _) (cell_made _ _ _ _ 0 (by simp [World.setCell])) (((YR.out.keep ((Kp.rfl' _).new _))).own hgB (Mx.len_row _ _) (by omega)) (fun i hi => Nat.ne_of_lt (by rw [HGR.out]; exact HL.out i hi)) (by rw [Mx.len_matl]; omega) (Nat.le_trans hsz (Nat.le_trans YK.out.size ((Kp.rfl' _).new _).size)) ?_; intro v' w' G' C'' ho' hk'))
          rw [← HS.out] at ho'
          have HO' := Lib.hid ho'
          have HK' := Lib.hid (hk' w (Nat.le_refl _) ((HK.out.trans YK.out).new _))
          clear ho' hk'
          go_wp2_with fail
          go_roundw
          case rel => exact ⟨k + 1, G', C'', by omega, by go_num, HO'.out, HK'.out⟩
          case measure => simp [intOf]; omega
        · have hup1 : ¬ (k : Int) + 1 < (n : Int) := by omega
          have FACT := Lib.hid (show ∀ w2, Kp wr w2 → Row w2 gr (List.replicate n 0) → ((∃ v, w2.cell? ⟨gr, k, none⟩ = some v) ∧ w2.frozen? ⟨gr, k, none⟩ = false) ∧ ((∃ v, (w2.setCell ⟨gr, k, none⟩ (.int .i64 ((m k).val : Int))).cell? ⟨gr, j, none⟩ = some v) ∧ (w2.setCell ⟨gr, k, none⟩ (.int .i64 ((m k).val : Int))).frozen? ⟨gr, j, none⟩ = false) ∧ Row ((w2.setCell ⟨gr, k, none⟩ (.int .i64 ((m k).val : Int))).setCell ⟨gr, j, none⟩ (.int .i64 ((b j).val : Int))) gr (Mx.row n fun i => ((Mx.bnd m a b k i).val : Int)) ∧ Kp wr ((w2.setCell ⟨gr, k, none⟩ (.int .i64 ((m k).val : Int))).setCell ⟨gr, j, none⟩ (.int .i64 ((b j).val : Int))) from fun w2 k2 r0 => by
            have r1 := r0.put k ((m k).val : Int)
            have r2 := r1.put j ((b j).val : Int)
            refine ⟨⟨⟨_, r0.cell k (by simp; omega)⟩, r0.free _⟩, ⟨⟨_, r1.cell j (by simp; omega)⟩, r1.free _⟩, ?_, ?_⟩
            · have e : (((List.replicate n (0 : Int)).set k ((m k).val : Int)).set j ((b j).val : Int)) = Mx.row n fun i => ((Mx.bnd m a b k i).val : Int) := by
                rw [Mx.row_rep, Mx.row_set, Mx.row_set]
                refine Mx.row_ext fun i hi => ?_
                rw [bnd_cell]
                repeat' split
                all_goals first | rfl | omega | (subst_vars; rfl) | (exfalso; omega) | (have e9 : i = j := by omega; rw [e9])
              rw [← e]; exact r2
            · exact ((k2.put (p := ⟨gr, k, none⟩) hgr2 _).put (p := ⟨gr, j, none⟩) hgr2 _))
          go_wp2_with (first
            | (at_make; refine wpList_make_full _ rfl _ _ 22 rfl wr.heap.size 3 i0 (.int .i64 0) 1 Tryd.underlying22 hi0 hz0 hz1 _ _ _ _ n rfl rfl rfl rfl (by rw [hz2]; omega) (by unfold maxLen; omega) (Nat.le_refl _) ?_; intro w2 hown hgrow; have kp2 : Kp wr w2 := (Kp.rfl' wr).grown hgrow (by simp) (fun k hk => by cases hk); have r0 := row_made hown; rw [← HGR.out] at r0 ⊢; obtain ⟨⟨⟨_, x1⟩, f1⟩, ⟨⟨_, x2⟩, f2⟩, yr, yk⟩ := FACT.out w2 kp2 r0; have YR := Lib.hid yr; have YK := Lib.hid yk; have ca := CA.out w2 kp2; have cb := CB.out _ (kp2.put (p := ⟨gr, k, none⟩) hgr2 (.int .i64 ((m k).val : Int))); clear hown hgrow r0 yr yk kp2)
            | (at_builtin; refine wpList_pushM rfl _ _ rfl w.heap.size _ G C' (Mx.matl k n (Mx.bnd m a b)) _ gr n n _ 1 (Mx.len_row _ _) rfl rfl ((HO.out.kp YK.out).new _) (cell_made _ _ _ _ 0 (by simp [World.setCell])) (((YR.out.keep ((Kp.rfl' _).new _))).own hgB (Mx.len_row _ _) (by omega)) (fun i hi => Nat.ne_of_lt (by rw [HGR.out]; exact HL.out i hi)) (by rw [Mx.len_matl]; omega) (Nat.le_trans hsz (Nat.le_trans YK.out.size ((Kp.rfl' _).new _).size)) ?_; intro v' w' G' C'' ho' hk'))
          rw [← HS.out] at ho'
          have HO' := Lib.hid ho'
          have HK' := Lib.hid (hk' w (Nat.le_refl _) ((HK.out.trans YK.out).new _))
          clear ho' hk'
          go_wp2_with fail
          go_roundw
          case rel => exact ⟨k + 1, G', C'', by omega, by go_num, HO'.out, HK'.out⟩
          case measure => simp [intOf]; omega
      · have hkj0 : ¬ (0 : Int) < (k : Int) := by omega
        by_cases hup : k + 1 < n
        · have hup1 : (k : Int) + 1 < (n : Int) := by omega
          have hkq : (k : Int) < (q : Int) := by have := HN.out; omega
          obtain ⟨bd0, rfl, _, _⟩ := HB.out.el (j := k) (by have := HN.out; omega)
          have CD := Lib.hid (show ∀ w', Kp wr w' → w'.cell? (bd0.add k) = some (.int .i64 ((a k).val : Int)) from fun w' k' => by
            obtain ⟨_, y, _, x⟩ := (HB.out.keep (HK.out.trans k')).el (j := k) (by have := HN.out; omega)
            cases y; exact x)
          have FACT := Lib.hid (show ∀ w2, Kp wr w2 → Row w2 gr (List.replicate n 0) → ((∃ v, w2.cell? ⟨gr, k, none⟩ = some v) ∧ w2.frozen? ⟨gr, k, none⟩ = false) ∧ ((∃ v, (w2.setCell ⟨gr, k, none⟩ (.int .i64 ((m k).val : Int))).cell? ⟨gr, (k + 1), none⟩ = some v) ∧ (w2.setCell ⟨gr, k, none⟩ (.int .i64 ((m k).val : Int))).frozen? ⟨gr, (k + 1), none⟩ = false) ∧ Row ((w2.setCell ⟨gr, k, none⟩ (.int .i64 ((m k).val : Int))).setCell ⟨gr, (k + 1), none⟩ (.int .i64 ((a k).val : Int))) gr (Mx.row n fun i => ((Mx.bnd m a b k i).val : Int)) ∧ Kp wr ((w2.setCell ⟨gr, k, none⟩ (.int .i64 ((m k).val : Int))).setCell ⟨gr, (k + 1), none⟩ (.int .i64 ((a k).val : Int))) from fun w2 k2 r0 => by
            have r1 := r0.put k ((m k).val : Int)
            have r2 := r1.put (k + 1) ((a k).val : Int)
            refine ⟨⟨⟨_, r0.cell k (by simp; omega)⟩, r0.free _⟩, ⟨⟨_, r1.cell (k + 1) (by simp; omega)⟩, r1.free _⟩, ?_, ?_⟩
            · have e : (((List.replicate n (0 : Int)).set k ((m k).val : Int)).set (k + 1) ((a k).val : Int)) = Mx.row n fun i => ((Mx.bnd m a b k i).val : Int) := by
                rw [Mx.row_rep, Mx.row_set, Mx.row_set]
                refine Mx.row_ext fun i hi => ?_
                rw [bnd_cell]
                repeat' split
                all_goals first | rfl | omega | (subst_vars; rfl) | (exfalso; omega) | (have e9 : i = j := by omega; rw [e9])
              rw [← e]; exact r2
            · exact ((k2.put (p := ⟨gr, k, none⟩) hgr2 _).put (p := ⟨gr, (k + 1), none⟩) hgr2 _))
          go_wp2_with (first
            | (at_make; refine wpList_make_full _ rfl _ _ 22 rfl wr.heap.size 3 i0 (.int .i64 0) 1 Tryd.underlying22 hi0 hz0 hz1 _ _ _ _ n rfl rfl rfl rfl (by rw [hz2]; omega) (by unfold maxLen; omega) (Nat.le_refl _) ?_; intro w2 hown hgrow; have kp2 : Kp wr w2 := (Kp.rfl' wr).grown hgrow (by simp) (fun k hk => by cases hk); have r0 := row_made hown; rw [← HGR.out] at r0 ⊢; obtain ⟨⟨⟨_, x1⟩, f1⟩, ⟨⟨_, x2⟩, f2⟩, yr, yk⟩ := FACT.out w2 kp2 r0; have YR := Lib.hid yr; have YK := Lib.hid yk; have ca := CA.out w2 kp2; have cd := CD.out _ (kp2.put (p := ⟨gr, k, none⟩) hgr2 (.int .i64 ((m k).val : Int))); clear hown hgrow r0 yr yk kp2)
            | (at_builtin; refine wpList_pushM rfl _ _ rfl w.heap.size _ G C' (Mx.matl k n (Mx.bnd m a b)) _ gr n n _ 1 (Mx.len_row _ _) rfl rfl ((HO.out.kp YK.out).new _) (cell_made _ _ _ _ 0 (by simp [World.setCell])) (((YR.out.keep ((Kp.rfl' _).new _))).own hgB (Mx.len_row _ _) (by omega)) (fun i hi => Nat.ne_of_lt (by rw [HGR.out]; exact HL.out i hi)) (by rw [Mx.len_matl]; omega) (Nat.le_trans hsz (Nat.le_trans YK.out.size ((Kp.rfl' _).new _).size)) ?_; intro v' w' G' C'' ho' hk'))
          rw [← HS.out] at ho'
          have HO' := Lib.hid ho'
          have HK' := Lib.hid (hk' w (Nat.le_refl _) ((HK.out.trans YK.out).new _))
          clear ho' hk'
          go_wp2_with fail
          go_roundw
          case rel => exact ⟨k + 1, G', C'', by omega, by go_num, HO'.out, HK'.out⟩
          case measure => simp [intOf]; omega
        · have hup1 : ¬ (k : Int) + 1 < (n : Int) := by omega
          have FACT := Lib.hid (show ∀ w2, Kp wr w2 → Row w2 gr (List.replicate n 0) → ((∃ v, w2.cell? ⟨gr, k, none⟩ = some v) ∧ w2.frozen? ⟨gr, k, none⟩ = false) ∧ Row (w2.setCell ⟨gr, k, none⟩ (.int .i64 ((m k).val : Int))) gr (Mx.row n fun i => ((Mx.bnd m a b k i).val : Int)) ∧ Kp wr (w2.setCell ⟨gr, k, none⟩ (.int .i64 ((m k).val : Int))) from fun w2 k2 r0 => by
            have r1 := r0.put k ((m k).val : Int)
            refine ⟨⟨⟨_, r0.cell k (by simp; omega)⟩, r0.free _⟩, ?_, ?_⟩
            · have e : ((List.replicate n (0 : Int)).set k ((m k).val : Int)) = Mx.row n fun i => ((Mx.bnd m a b k i).val : Int) := by
                rw [Mx.row_rep, Mx.row_set]
                refine Mx.row_ext fun i hi => ?_
                rw [bnd_cell]
                repeat' split
                all_goals first | rfl | omega | (subst_vars; rfl) | (exfalso; omega) | (have e9 : i = j := by omega; rw [e9])
              rw [← e]; exact r1
            · exact (k2.put (p := ⟨gr, k, none⟩) hgr2 _))
          go_wp2_with (first
            | (at_make; refine wpList_make_full _ rfl _ _ 22 rfl wr.heap.size 3 i0 (.int .i64 0) 1 Tryd.underlying22 hi0 hz0 hz1 _ _ _ _ n rfl rfl rfl rfl (by rw [hz2]; omega) (by unfold maxLen; omega) (Nat.le_refl _) ?_; intro w2 hown hgrow; have kp2 : Kp wr w2 := (Kp.rfl' wr).grown hgrow (by simp) (fun k hk => by cases hk); have r0 := row_made hown; rw [← HGR.out] at r0 ⊢; obtain ⟨⟨⟨_, x1⟩, f1⟩, yr, yk⟩ := FACT.out w2 kp2 r0; have YR := Lib.hid yr; have YK := Lib.hid yk; have ca := CA.out w2 kp2; clear hown hgrow r0 yr yk kp2)
            | (at_builtin; refine wpList_pushM rfl _ _ rfl w.heap.size _ G C' (Mx.matl k n (Mx.bnd m a b)) _ gr n n _ 1 (Mx.len_row _ _) rfl rfl ((HO.out.kp YK.out).new _) (cell_made _ _ _ _ 0 (by simp [World.setCell])) (((YR.out.keep ((Kp.rfl' _).new _))).own hgB (Mx.len_row _ _) (by omega)) (fun i hi => Nat.ne_of_lt (by rw [HGR.out]; exact HL.out i hi)) (by rw [Mx.len_matl]; omega) (Nat.le_trans hsz (Nat.le_trans YK.out.size ((Kp.rfl' _).new _).size)) ?_; intro v' w' G' C'' ho' hk'))
          rw [← HS.out] at ho'
          have HO' := Lib.hid ho'
          have HK' := Lib.hid (hk' w (Nat.le_refl _) ((HK.out.trans YK.out).new _))
          clear ho' hk'
          go_wp2_with fail
          go_roundw
          case rel => exact ⟨k + 1, G', C'', by omega, by go_num, HO'.out, HK'.out⟩
          case measure => simp [intOf]; omega
    · obtain rfl : k = n := by omega
      clear ho hkp
      go_wp2_with fail
      go_ret
      exact ⟨_, G, C', rfl, HO.out, HK.out⟩

end Go.Proofs.YtbmkkcpdlakgbaaDoor
