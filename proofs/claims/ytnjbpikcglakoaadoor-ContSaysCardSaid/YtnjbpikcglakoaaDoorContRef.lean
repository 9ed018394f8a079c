/- Contracts of the document's answer: Fraction, Terms, fraction, Near. -/
import Derived.Test.YtnjbpikcglakoaaDoorSameF
import Derived.StillTailTactics
namespace Go.Proofs.YtnjbpikcglakoaaDoor
open Go.ChangeShapes Go.WideShapes Go.ChangeAt Go.RowKit
open Cont
set_option linter.unusedVariables false

theorem refFraction_any (n d : Int) (w : World) :
    Calls Tryd.prog 4 #[.agg #[.int .i64 n, .int .i64 d]] w fun e w' => ((OkF n d ∧ e = .returned (.int .i64 0)) ∨ (¬ OkF n d ∧ e = .returned (.int .i64 1))) ∧ Kp w w' := by
  unfold OkF
  by_cases h1 : 0 ≤ n ∧ n ≤ 1000000
  · by_cases h2 : 1 ≤ d ∧ d ≤ 1000000
    · go_enter Tryd.func4, Tryd.ntmps4
      go_wp2_with fail
      refine (refIn_yes n 0 1000000 _ h1.1 h1.2).mono ?_; rintro e w' ⟨rfl, rfl⟩
      go_wp2_with fail
      refine (refIn_yes d 1 1000000 _ h2.1 h2.2).mono ?_; rintro e w' ⟨rfl, rfl⟩
      go_wp2_with fail
      go_ret
      exact ⟨.inl ⟨⟨h1.1, h1.2, h2.1, h2.2⟩, rfl⟩, (Kp.rfl' w).new _⟩
    · go_enter Tryd.func4, Tryd.ntmps4
      go_wp2_with fail
      refine (refIn_yes n 0 1000000 _ h1.1 h1.2).mono ?_; rintro e w' ⟨rfl, rfl⟩
      go_wp2_with fail
      refine (refIn_no d 1 1000000 _ h2).mono ?_; rintro e w' ⟨rfl, rfl⟩
      go_wp2_with fail
      go_ret
      exact ⟨.inr ⟨fun h => h2 ⟨h.2.2.1, h.2.2.2⟩, rfl⟩, (Kp.rfl' w).new _⟩
  · go_enter Tryd.func4, Tryd.ntmps4
    go_wp2_with fail
    refine (refIn_no n 0 1000000 _ h1).mono ?_; rintro e w' ⟨rfl, rfl⟩
    go_wp2_with fail
    go_ret
    exact ⟨.inr ⟨fun h => h1 ⟨h.1, h.2.1⟩, rfl⟩, (Kp.rfl' w).new _⟩

set_option maxHeartbeats 1600000 in
theorem refTerms_in (N D : Nat) (w : World) (h1 : N ≤ 1000000) (h2 : 1 ≤ D) (h3 : D ≤ 1000000) :
    Calls Tryd.prog 5 #[.int .i64 (N : Int), .int .i64 (D : Int)] w fun e w' => ∃ v, e = .returned v ∧ Own w' w.heap.size v (terms N D) ∧ Kp w w' := by
  have FEW := Lib.hid (terms_few N D h2 h1 h3)
  go_enter Tryd.func5, Tryd.ntmps5
  go_wp2_with fail
  go_loopw [0, 1, 5] (fun a b v wr => ∃ (x y : Nat) (l : List Int), x ≤ 1000000 ∧ y ≤ 1000000 ∧ a = .int .i64 (x : Int) ∧ b = .int .i64 (y : Int) ∧ terms N D = l ++ terms x y ∧ Own wr w.heap.size v l ∧ Kp w wr) (fun _ b _ _ => (intOf b).toNat)
  case atStart => exact ⟨N, D, [], h1, h3, rfl, rfl, rfl, Own.none _ _, Kp.rfl' w⟩
  case round =>
    obtain ⟨x, y, l, hx, hy, rfl, rfl, he, hown, hkp⟩ := hrel
    have HE := Lib.hid he
    have HO := Lib.hid hown
    have HK := Lib.hid hkp
    clear he hown hkp
    by_cases h : y = 0
    · subst h
      go_wp2_with fail
      go_ret
      refine ⟨_, rfl, ?_, HK.out⟩
      have := HE.out
      rw [terms_zero, List.append_nil] at this
      rw [this]
      exact HO.out
    · have h0 : 0 < y := by omega
      have hm := Nat.mod_lt x h0
      have hpos : (0 : Int) < (y : Int) := by omega
      have hne' : ((y : Int) == 0) = false := by rw [beq_eq_false_iff_ne]; omega
      have HE' := Lib.hid (show terms N D = (l ++ [((x / y : Nat) : Int)]) ++ terms y (x % y) by rw [HE.out, terms_pos x y h0]; simp)
      have hlen : l.length + 1 ≤ 17000000000000 := by
        have e := congrArg List.length HE'.out
        rw [List.length_append, List.length_append] at e
        have := FEW.out
        simp at e
        omega
      have WQ := Lib.hid (show wrap64 ((x : Int) / (y : Int)) = (x : Int) / (y : Int) from by
        have e : ((x / y : Nat) : Int) = (x : Int) / (y : Int) := Int.natCast_ediv ..
        have : x / y ≤ x := Nat.div_le_self _ _
        rw [← e]
        generalize x / y = q at this ⊢
        exact wrap64_id (by omega))
      clear h
      go_wp2_with (at_builtin; refine wpList_push rfl _ _ rfl w.heap.size _ l ((x / y : Nat) : Int) wr.heap.size 1 rfl rfl (HO.out.new _) (by simp; exact WQ.out) hlen (by have := HK.out.size; simp; omega) ?_; intro v' w' h1 h2 _)
      have HO' := Lib.hid h1
      have HK' := Lib.hid (own_below (HO.out.new _) (HK.out.new _) (by have := HK.out.size; simp; omega) h2)
      clear h1 h2
      go_wp2_with fail
      go_roundw
      case rel => exact ⟨y, x % y, _, hy, by omega, rfl, by go_num, HE'.out, HO'.out, HK'.out⟩
      case measure => simp [intOf]; omega

theorem Own.lies' {w : World} {B : Nat} {v : Value} {l : List Int} (h : Own w B v l) : ∃ A c, v = .slice A l.length c ∧ l.length ≤ c ∧ Lies w A l := by
  obtain ⟨A, c, rfl, hl⟩ := h.lies
  refine ⟨A, c, rfl, ?_, hl⟩
  rcases h.2 with ⟨h2, h3⟩ | ⟨g, cap, cur, hv, _, _, hc, _⟩
  · rw [h3]; omega
  · injection hv with _ _ hv; rw [hv]; exact hc

theorem lies_pre {w : World} {A : Option Addr} {l : List Int} (h : Lies w A l) (k : Nat) (hk : k ≤ l.length) : (l.take k).length = k ∧ Lies w A (l.take k) := by
  have e : (l.take k).length = k := by rw [List.length_take]; omega
  refine ⟨e, fun j hj => ?_⟩
  obtain ⟨ad, ha, hb, hc⟩ := h j (by omega)
  refine ⟨ad, ha, hb, ?_⟩
  rw [hc, List.getD_eq_getElem?_getD, List.getD_eq_getElem?_getD, List.getElem?_take_of_lt (by omega)]
theorem lies_drop {w : World} {ad : Addr} {l : List Int} (h : Lies w (some ad) l) (m : Nat) (hm : m ≤ l.length) : (l.drop m).length = l.length - m ∧ Lies w (some (ad.add m)) (l.drop m) := by
  have e : (l.drop m).length = l.length - m := by rw [List.length_drop]
  refine ⟨e, fun j hj => ?_⟩
  obtain ⟨ad', ha, hb, hc⟩ := h (m + j) (by omega)
  injection ha with ha
  subst ha
  refine ⟨_, rfl, by rw [block_add]; exact hb, ?_⟩
  rw [add_add, hc, List.getD_eq_getElem?_getD, List.getD_eq_getElem?_getD, List.getElem?_drop]

set_option maxRecDepth 100000 in
set_option maxHeartbeats 1600000 in
theorem refFrac_any (A : Option Addr) (l : List Int) (c : Nat) (w : World) (hl : Lies w A l) (h0 : 0 < l.length) (hn : l.length ≤ 1000000) (hx : ∀ k, k < l.length → 0 ≤ l.getD k 0 ∧ l.getD k 0 ≤ 1000000)
    (hb : ∀ i, 1 ≤ i → 0 ≤ (frac (l.drop i)).2 ∧ (frac (l.drop i)).2 ≤ (frac (l.drop i)).1 ∧ (frac (l.drop i)).1 ≤ 1000001000000) :
    Calls Tryd.prog 17 #[.slice A l.length c] w fun e w' => e = .returned (frv (frac l)) ∧ Kp w w' := by
  have HL := Lib.hid hl
  have HX := Lib.hid hx
  have HB := Lib.hid hb
  obtain ⟨n, hn'⟩ : ∃ n, l.length = n + 1 := ⟨l.length - 1, by omega⟩
  have HN := Lib.hid hn'
  rw [hn'] at hn ⊢
  obtain ⟨ad, rfl, hld, hc⟩ := hl n (by omega)
  have hw1 : wrap64 (n : Int) = n := wrap64_id (by omega)
  have hw2 : wrap64 ((n : Int) - 1) = (n : Int) - 1 := wrap64_id (by omega)
  obtain ⟨x, hxx⟩ : ∃ x, x = l.getD n 0 := ⟨_, rfl⟩
  rw [← hxx] at hc
  have HST := Lib.hid (show frac (l.drop n) = (x, 1) from by
    rw [frac_at l n (by omega), List.drop_of_length_le (by omega), hxx]
    simp [frac])
  have hcA : ∀ o : Obj, (w.alloc o).cell? (ad.add n) = some (.int .i64 x) := fun o => (((Kp.rfl' w).new o).cell (by rw [block_add]; exact hld)).trans hc
  clear hl hx hb h0 hn' hxx
  go_enter Tryd.func17, Tryd.ntmps17
  go_wp2_with fail
  go_loopw [4] (fun i wr => ∃ j : Nat, j ≤ n ∧ i = .int .i64 ((j : Int) - 1) ∧ Box (w.heap.size + 1) (frac (l.drop j)) wr ∧ Box w.heap.size (0, 0) wr ∧ Kp w wr) (fun i _ => (intOf i + 1).toNat)
  case atStart => exact ⟨n, Nat.le_refl _, by go_num, by rw [HST.out]; exact Box.made _ (x, 1) _ _ (by simp), (Box.made w (0, 0) 23 _ rfl).keep ((Kp.rfl' _).new _), ((Kp.rfl' w).new _).new _⟩
  case round =>
    obtain ⟨j, hj, rfl, hbx, hby, hkp⟩ := hrel
    have HK := Lib.hid hkp
    have HX1 := Lib.hid hbx
    have HY1 := Lib.hid hby
    clear hbx hby hkp
    cases j with
    | succ j =>
      obtain ⟨ad', e, _, hd⟩ := (HL.out.keep HK.out) j (by have := HN.out; omega)
      injection e with e
      subst e
      have ei : ((j + 1 : Nat) : Int) - 1 = (j : Int) := by omega
      rw [ei]
      have hfr := frac_at l j (by have := HN.out; omega)
      have hbb := HB.out (j + 1) (by omega)
      have hxx := HX.out j (by have := HN.out; omega)
      obtain ⟨y, hy⟩ : ∃ y, y = l.getD j 0 := ⟨_, rfl⟩
      rw [← hy] at hd hfr hxx
      have k1 := HX1.out.c1
      have k2 := HX1.out.c2
      have k3 := HX1.out.z1
      have k4 := HX1.out.z2
      obtain ⟨f, hf⟩ : ∃ f, f = frac (l.drop (j + 1)) := ⟨_, rfl⟩
      rw [← hf] at k1 k2 hfr hbb HX1
      obtain ⟨p, q⟩ := f
      simp only [] at k1 k2 hfr hbb
      clear hf hy ei
      have HFR := Lib.hid hfr
      have m1 : 0 ≤ y * p := Int.mul_nonneg hxx.1 (by omega)
      have m2 : y * p ≤ 1000000 * 1000001000000 := Int.mul_le_mul hxx.2 hbb.2.2 (by omega) (by omega)
      have HM := Lib.hid (And.intro m1 (And.intro m2 (And.intro hbb.1 (Int.le_trans hbb.2.1 hbb.2.2))))
      clear m1 m2 hbb hxx hfr hcA hw1 hw2 hc
      have hlt : (j : Int) < (n : Int) + 1 := by omega
      go_wp2_with fail
      obtain ⟨m1, m2, m3, m4⟩ := HM.out
      go_still_tail 13, (by kernel_rfl)
      clear m1 m2 m3 m4
      change wpList _ _ _ _ _ wr.drew
      go_wp2_with fail
      go_roundw
      case rel =>
        obtain ⟨m1, m2, m3, m4⟩ := HM.out
        have e1 : wrap64 (y * p) = y * p := by unfold wrap64; omega
        have e2 : wrap64 (y * p + q) = y * p + q := by unfold wrap64; omega
        rw [e1, e2]
        refine ⟨j, by omega, by go_num, ?_, ?_, ((HK.out.put (p := ⟨w.heap.size + 1, 0, none⟩) (by simp) _).put (p := ⟨w.heap.size + 1, 1, none⟩) (by simp) _).drewN 1⟩
        · have := (HX1.out.put (y * p + q, p)).keep ((Kp.rfl' _).drewN 1)
          rw [HFR.out]
          exact this
        · exact (HY1.out.far (by simp) _ _).keep ((Kp.rfl' _).drewN 1)
      case measure => simp [intOf]
    | zero =>
      have ei : ((0 : Nat) : Int) - 1 = -1 := by decide
      rw [ei]
      have k1 := HX1.out.c1
      have k2 := HX1.out.c2
      have g1 := HY1.out.c1
      have g2 := HY1.out.c2
      have g3 := HY1.out.z1
      have g4 := HY1.out.z2
      have HZ := Lib.hid (HY1.out.put (frac l))
      rw [List.drop_zero] at k1 k2
      obtain ⟨f, hf⟩ : ∃ f, f = frac l := ⟨_, rfl⟩
      rw [← hf] at k1 k2 HZ
      have HF := Lib.hid hf
      obtain ⟨p, q⟩ := f
      simp only [] at k1 k2
      clear hf hcA hw1 hw2 hc
      go_wp2_with fail
      have h1 := HZ.out.c1
      have h2 := HZ.out.c2
      exact bodyPost_ret (v := .agg #[.int .i64 p, .int .i64 q]) (by simp [results, Tryd.results17, go_sem, h1, h2]) rfl ⟨by rw [← HF.out], (HK.out.put (p := ⟨w.heap.size, 0, none⟩) (Nat.le_refl _) _).put (p := ⟨w.heap.size, 1, none⟩) (Nat.le_refl _) _⟩

/-- The document's check of terms. -/
theorem okT_iff (l : List Int) (h : 0 < l.length) : OkT l ↔ (0 ≤ l.getD 0 0 ∧ l.getD 0 0 ≤ 1000000) ∧ AllIn (l.drop 1) 1 1000000 := by
  have e : ∀ k, (l.drop 1).getD k 0 = l.getD (1 + k) 0 := fun k => by rw [List.getD_eq_getElem?_getD, List.getD_eq_getElem?_getD, List.getElem?_drop]
  constructor
  · intro ok
    refine ⟨⟨(ok 0 h).1, (ok 0 h).2.1⟩, fun k hk => ?_⟩
    rw [List.length_drop] at hk
    rw [e]
    have := ok (1 + k) (by omega)
    exact ⟨this.2.2 (by omega), this.2.1⟩
  · intro ⟨⟨h1, h2⟩, h3⟩ k hk
    cases k with
    | zero => exact ⟨h1, h2, fun h => absurd h (by omega)⟩
    | succ k =>
      have := h3 k (by rw [List.length_drop]; omega)
      rw [e, Nat.add_comm] at this
      exact ⟨by omega, this.2, fun _ => this.1⟩

def RNearSays (l : List Int) (w : World) (e : Ending) (w' : World) : Prop :=
  ∃ (c : Nat) (fs : List Fr) (v : Value), NearAns l c fs ∧ e = .returned (.tuple #[v, .int .i64 (c : Int)]) ∧ OwnF w' w.heap.size v fs ∧ Kp w w'

theorem refNear_len (A : Option Addr) (l : List Int) (c : Nat) (w : World) (h : ¬ (0 < l.length ∧ l.length ≤ 30)) :
    Calls Tryd.prog 9 #[.slice A l.length c] w fun e w' => RNearSays l w e w' := by
  by_cases h0 : l.length = 0
  · have FIN := Lib.hid (show RNearSays l w (.returned (.tuple #[.slice none 0 0, .int .i64 5])) w from ⟨5, [], _, .inl ⟨List.eq_nil_of_length_eq_zero h0, rfl, rfl⟩, rfl, OwnF.none _ _, Kp.rfl' _⟩)
    rw [h0]
    clear h h0
    go_enter Tryd.func9, Tryd.ntmps9
    go_wp2_with fail
    go_ret2
    exact FIN.out
  · have hn : (30 : Int) < l.length := by omega
    have z1 : ((l.length : Int) == 0) = false := by rw [beq_eq_false_iff_ne]; omega
    have FIN := Lib.hid (show RNearSays l w (.returned (.tuple #[.slice none 0 0, .int .i64 4])) w from ⟨4, [], _, .inr (.inl ⟨by omega, rfl, rfl⟩), rfl, OwnF.none _ _, Kp.rfl' _⟩)
    generalize l.length = n at *
    clear h h0
    go_enter Tryd.func9, Tryd.ntmps9
    go_wp2_with fail
    go_ret2
    exact FIN.out

end Go.Proofs.YtnjbpikcglakoaaDoor
