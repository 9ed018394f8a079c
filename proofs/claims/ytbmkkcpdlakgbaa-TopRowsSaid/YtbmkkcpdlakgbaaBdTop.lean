/- The walk of TopRows. -/
import Derived.Test.YtbmkkcpdlakgbaaBdC3
import Derived.Test.YtbmkkcpdlakgbaaContC
import Derived.Test.YtbmkkcpdlakgbaaMxRef
namespace Go.Proofs.Ytbmkkcpdlakgbaa
open Go.ChangeShapes Go.WideShapes Go.ChangeAt Go.RowKit
open Cont (Fr fw s0 nx cv cv_next fw_snoc NearAns nearsUp nearsUp_len nearsUp_at Small' OkT)
set_option linter.unusedVariables false

def ones' : Nat → Fp.F := fun _ => 1
def negs' : Nat → Fp.F := fun _ => 9972
theorem euler_step (m : Nat → Fp.F) (k : Nat) : m k * Mx.ko k m (fun i => ones' i * negs' i) + sh m (fun i => ones' i * negs' i) k = Mx.ko (k + 1) m (fun i => ones' i * negs' i) := by
  rcases k with _ | k
  · unfold sh; rw [if_pos rfl]; simp only [Mx.ko]; grind
  · have e : ones' k * negs' k = -1 := by unfold ones' negs'; decide +kernel
    rw [Mx.ko_next, e]
    unfold sh; rw [if_neg (by omega), show k + 1 - 1 = k from rfl]; grind
theorem euler (n : Nat) (m : Nat → Fp.F) : ∀ k, k ≤ n → Fp.ofInt (fw s0 ((rowF n m).take k)).2.1 = Mx.ko k m (fun i => ones' i * negs' i) ∧ Fp.ofInt (fw s0 ((rowF n m).take k)).1.1 = sh m (fun i => ones' i * negs' i) k
  | 0, _ => by
    rw [List.take_zero]
    exact ⟨rfl, rfl⟩
  | k + 1, hk => by
    obtain ⟨h1, h2⟩ := euler n m k (by omega)
    have e : (rowF n m).take (k + 1) = (rowF n m).take k ++ [((m k).val : Int)] := by
      rw [List.take_succ_eq_append_getElem (by rw [Mx.len_row]; omega)]
      congr 1
      simp [Mx.row]
    rw [e, fw_snoc]
    refine ⟨?_, ?_⟩
    · show Fp.ofInt (((m k).val : Int) * (fw s0 ((rowF n m).take k)).2.1 + (fw s0 ((rowF n m).take k)).1.1) = _
      rw [Fp.ofInt_add, Fp.ofInt_mul, Fp.ofInt_self, h1, h2, euler_step]
    · show Fp.ofInt (fw s0 ((rowF n m).take k)).2.1 = _
      rw [h1]; unfold sh; rw [if_neg (by omega)]; rfl
theorem euler_last (q : Nat) (m : Nat → Fp.F) : (cv (rowF (q + 1) m) q).1 % 9973 = ((Mx.ko (q + 1) m (fun i => ones' i * negs' i)).val : Int) := by
  obtain ⟨h1, h2⟩ := euler (q + 1) m q (by omega)
  rw [cv_next _ _ (by rw [Mx.len_row]; omega), Mx.row_at _ _ _ (by omega), ← Fp.ofInt_val]
  show ((Fp.ofInt (((m q).val : Int) * (fw s0 ((rowF (q + 1) m).take q)).2.1 + (fw s0 ((rowF (q + 1) m).take q)).1.1)).val : Int) = _
  rw [Fp.ofInt_add, Fp.ofInt_mul, Fp.ofInt_self, h1, h2, euler_step]

theorem det_three (w : World) (A : Option Addr) (ha : Lies w A [3]) : Calls Try.prog 7 #[.slice A 1 1, .slice none 0 0, .slice none 0 0] w fun e w' => e = .returned (.tuple #[.int .i64 3, .nilIface]) ∧ Kp w w' := by
  have ha' : Lies w A (rowF (0 + 1) (fun _ => (3 : Fp.F))) := by
    have e : [3] = rowF (0 + 1) (fun _ => (3 : Fp.F)) := by decide +kernel
    rwa [e] at ha
  have h := BDet_ok A none none 0 1 0 0 (fun _ => 3) (fun _ => 0) (fun _ => 0) w ha' (Lies.empty _ _) (Lies.empty _ _) (by decide)
  exact h

set_option maxRecDepth 100000 in
set_option maxHeartbeats 6400000 in
theorem walk_TopRows (A : Option Addr) (l : List Int) (c : Nat) (w : World) (ha : Lies w A l) :
    Calls Try.prog 5 #[.slice A l.length c] w fun e w' => e = .returned (.bool true) ∧ Kp w w' := by
  have NE := Lib.hid (near_every A l c w ha)
  have D3 := Lib.hid (fun w1 => det_three (w1.alloc (.cells (ints [3]).toArray 3)) (some ⟨w1.heap.size, 0, none⟩) (lies_new w1 _ [3]))
  have HA := Lib.hid ha
  have ALL := Lib.hid (fun w' (k : Kp w w') (h : l.length ≤ 1000000) => all_any A l c 0 9972 w' (ha.keep k) h)
  have DET := Lib.hid (fun (m : Nat → Fp.F) (q : Nat) (hm : l = rowF (q + 1) m) (hq : q ≤ 9) w' (B C : Option Addr) (d f : Nat) (k : Kp w w') (hb : Lies w' B (rowF q ones')) (hc : Lies w' C (rowF q negs')) => BDet_ok A B C q c d f m ones' negs' w' (by rw [← hm]; exact ha.keep k) hb hc hq)
  obtain ⟨n, hn⟩ : ∃ n, n = l.length := ⟨_, rfl⟩
  rw [← hn] at NE ALL ⊢
  have HN := Lib.hid hn
  clear ha hn
  go_enter Try.func5, Try.ntmps5
  go_wp2_with fail
  refine (NE.out).mono ?_; rintro e w1 ⟨cc, fs, v, hans, rfl, hof, k1⟩
  obtain ⟨Am, cm, rfl, lm⟩ := hof.lies
  have K1 := Lib.hid k1
  have LM := Lib.hid lm
  rcases Cont.near_code hans with ⟨rfl, hlen⟩ | ⟨hcc, rfl⟩
  · rw [hlen, ← HN.out, errOf_zero]
    have HANS := Lib.hid hans
    have HL := Lib.hid hlen
    clear hof lm k1 hans hlen NE
    go_wp2_with fail
    change Calls _ _ _ (w1.alloc (.cells (ints [3]).toArray 3)) _
    refine (D3.out w1).mono ?_; rintro e w2 ⟨rfl, k2⟩
    have K2 := Lib.hid (K1.out.trans (((Kp.rfl' w1).new _).trans k2))
    have LM2 := Lib.hid (LM.out.keep (((Kp.rfl' w1).new _).trans k2))
    clear k2 D3 LM K1
    by_cases hten : 10 < n
    · have hten' : (10 : Int) < (n : Int) := by omega
      go_wp2_with fail
      go_ret
      exact ⟨rfl, K2.out⟩
    · have hten' : decide ((10 : Int) < (n : Int)) = false := by simp; omega
      have AL := Lib.hid (ALL.out w2 K2.out (by omega))
      by_cases hall : AllIn l 0 9972
      · go_wp2_with fail
        refine (AL.out).mono ?_; rintro e w' ⟨ht, rfl⟩
        obtain rfl := tells_yes ht hall
        clear ht
        obtain ⟨m, hm⟩ := brow_of hall
        have hna : 0 < l.length ∧ Small' l ∧ OkT l ∧ fs = nearsUp l l.length := by
          rcases HANS.out with ⟨_, h, _⟩ | ⟨_, h, _⟩ | ⟨_, _, _, h, _⟩ | ⟨_, _, _, _, h, _⟩ | ⟨h1, h2, h3, h4, _, h6⟩
          · cases h
          · cases h
          · cases h
          · cases h
          · exact ⟨h1, h4, h3, h6⟩
        obtain ⟨h0, hsm, hok, hfs⟩ := hna
        obtain ⟨q, hq⟩ : ∃ q, n = q + 1 := ⟨n - 1, by have := HN.out; omega⟩
        have hlq : l.length = q + 1 := by rw [← HN.out, hq]
        rw [hlq] at hm
        have hq9 : q ≤ 9 := by omega
        have DE := Lib.hid (DET.out m q hm hq9)
        have EU := Lib.hid (show (cv l q).1 % 9973 = ((Mx.ko (q + 1) m (fun i => ones' i * negs' i)).val : Int) by rw [hm]; exact euler_last q m)
        have bnd : 0 ≤ (cv l q).1 ∧ (cv l q).1 ≤ 1000000 := ⟨(Cont.cv_ge l hok q (by omega)).1, (hsm q (by omega)).1⟩
        have HFS := Lib.hid (show fs.length = q + 1 ∧ (fs.getD q (0, 0)).1 = (cv l q).1 by rw [hfs, nearsUp_len, nearsUp_at _ _ _ (by omega)]; exact ⟨hlq, rfl⟩)
        clear hall HANS HL hm h0 hsm hok hfs hlq DET ALL
        generalize ((Mx.ko (q + 1) m (fun i => ones' i * negs' i)).val : Int) = dv at *
        obtain ⟨num, hnum⟩ : ∃ x, x = (cv l q).1 := ⟨_, rfl⟩
        rw [← hnum] at EU bnd HFS
        clear hnum
        have MO := Lib.hid (fun w => rMod_any num w (by omega) (by omega))
        rw [EU.out] at MO
        obtain ⟨ad, rfl, _, cx, _⟩ := LM2.out.at q (by rw [HFS.out.1]; omega)
        rw [HFS.out.2, Nat.mul_comm] at cx
        have HF1 := Lib.hid HFS.out.1
        clear HFS hten
        have CX := Lib.hid cx
        clear cx
        have hw : IntKind.i64.wrap ((n : Int) - 1) = (q : Int) := by rw [IntWalk.i64_in _ (by omega)]; omega
        have hqn : (q : Int) < (n : Int) := by omega
        have HQ := Lib.hid hq
        clear hq
        go_wp2_with fail
        go_loopw [7, 8, 9] (fun u v i wr => ∃ k : Nat, k ≤ q ∧ i = .int .i64 ((k : Int) + 1) ∧ Two w2 u v (rowF k ones') (rowF k negs') wr) (fun _ _ i _ => n - (intOf i).toNat)
        case atStart => exact ⟨0, Nat.zero_le _, rfl, ⟨Own.none _ _, Own.none _ _, fun g h => (by cases h), Kp.rfl' _⟩⟩
        case round =>
          obtain ⟨k, hk, rfl, ht⟩ := hrel
          have HT := Lib.hid ht
          have hsz := ht.kp.size
          clear ht
          by_cases hlt : k < q
          · have hlt' : (k : Int) + 1 < (n : Int) := by have := HQ.out; omega
            have S1 := Lib.hid (show rowF (k + 1) ones' = rowF k ones' ++ [1] from Mx.row_snoc _ _)
            have S2 := Lib.hid (show rowF (k + 1) negs' = rowF k negs' ++ [9972] from Mx.row_snoc _ _)
            go_wp2_with (first
              | (at_builtin; refine wpList_push rfl _ _ rfl w2.heap.size _ (rowF k ones') 1 wr.heap.size 1 rfl rfl (HT.out.one.new _) (by simp) (by rw [Mx.len_row]; omega) (by simp; omega) ?_; intro v3 w3 h1 h2 h3; have TW := Lib.hid ((HT.out.new _).grown h1 h2 h3); have hs3 := TW.out.kp.size; clear h1 h2 h3)
              | (at_builtin; refine wpList_push rfl _ _ rfl w2.heap.size _ (rowF k negs') 9972 w3.heap.size 1 rfl rfl (TW.out.two.new _) (by simp) (by rw [Mx.len_row]; omega) (by simp; omega) ?_; intro v4 w4 h1 h2 h3; have TZ := Lib.hid (((TW.out.symm).new _).grown h1 h2 h3).symm; clear h1 h2 h3))
            go_roundw
            case rel => exact ⟨k + 1, by omega, by go_num, by rw [S1.out, S2.out]; exact TZ.out⟩
            case measure => have := HQ.out; simp [intOf]; omega
          · obtain rfl : k = q := by omega
            obtain ⟨B, d, e1, lb⟩ := HT.out.one.lies
            obtain ⟨C, f, e2, lc⟩ := HT.out.two.lies
            rw [Mx.len_row] at e1 e2
            subst e1 e2
            have hlt' : ¬ (k : Int) + 1 < (n : Int) := by have := HQ.out; omega
            have K3 := Lib.hid (K2.out.trans HT.out.kp)
            have DD := Lib.hid (DE.out wr B C d f K3.out lb lc)
            have CX3 := Lib.hid ((HT.out.kp.cell (p := ad.add (k * 2)) (cell_lt CX.out)).trans CX.out)
            rw [← HQ.out] at DD
            have HF := Lib.hid (show fs.length = n by rw [HF1.out, HQ.out])
            clear lb lc DE CX HF1
            go_wp2_with fail
            refine (DD.out).mono ?_; rintro e w5 ⟨rfl, k5⟩
            have K5 := Lib.hid (K3.out.trans k5)
            have CX5 := (k5.cell (p := ad.add (k * 2)) (cell_lt CX3.out)).trans CX3.out
            clear k5 DD
            go_wp2_with fail
            refine (MO.out w5).mono ?_; rintro e w' ⟨rfl, rfl⟩
            go_wp2_with fail
            go_ret
            exact ⟨rfl, K5.out⟩
      · go_wp2_with fail
        refine (AL.out).mono ?_; rintro e w' ⟨ht, rfl⟩
        obtain rfl := tells_no ht hall
        clear ht
        go_wp2_with fail
        go_ret
        exact ⟨rfl, K2.out⟩
  · rw [errOf_ne cc (by omega)]
    clear hof lm k1 hans NE
    go_wp2_with fail
    change Calls _ _ _ (w1.alloc (.cells (ints [3]).toArray 3)) _
    refine (D3.out w1).mono ?_; rintro e w2 ⟨rfl, k2⟩
    have K2 := Lib.hid (K1.out.trans (((Kp.rfl' w1).new _).trans k2))
    clear k2
    go_wp2_with fail
    go_ret
    exact ⟨rfl, K2.out⟩

end Go.Proofs.Ytbmkkcpdlakgbaa
