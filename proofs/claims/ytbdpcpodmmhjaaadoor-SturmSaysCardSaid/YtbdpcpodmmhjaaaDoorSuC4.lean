/- Contracts of package sturm: turnsAfter, chain. -/
import Derived.Test.YtbdpcpodmmhjaaaDoorSuC3
import Derived.Test.YtbdpcpodmmhjaaaDoorHdsV
namespace Go.Proofs.YtbdpcpodmmhjaaaDoor
open Go.ChangeShapes Go.WideShapes Go.ChangeAt Go.RowKit
set_option linter.unusedVariables false

set_option maxHeartbeats 1600000 in
theorem uta_any (A : Option Addr) (C : List (List Int)) (n c : Nat) (x : Int) (w : World) (hl : LiesM w A C) (hn : C.length = n) (n10 : n ≤ 10) (sz : ∀ g ∈ C, Stu.Sz g) (hx : -100 ≤ x ∧ x ≤ 100) :
    Calls Tryd.prog 27 #[.slice A n c, .int .i64 x] w fun e w' => e = .returned (.int .i64 ((Stu.va C x : Nat) : Int)) ∧ Kp w w' := by
  obtain ⟨af, haf⟩ : ∃ af : List Int → Int, af = fun g => Stu.aft g.length g x := ⟨_, rfl⟩
  have HL := Lib.hid hl
  have HN := Lib.hid hn
  have AFT := Lib.hid (fun (A' : Option Addr) (l : List Int) (m c' : Nat) (w' : World) (h1 : Lies w' A' l) (h2 : l.length = m) (h3 : m ≤ c') (h4 : l ∈ C) => by
    have := uaft_any A' l m c' x w' h1 h2 h3 (sz l h4) hx
    rw [show Stu.aft l.length l x = af l by rw [haf]] at this
    exact this)
  have VA := Lib.hid (show Stu.trn (C.map af) = Stu.va C x by
    unfold Stu.trn Stu.va
    rw [List.map_map, haf]; rfl)
  have TN := Lib.hid (fun (A' : Option Addr) (l : List Int) (c' : Nat) (w' : World) (h1 : Lies w' A' l) (h2 : l.length = n) => uturns_any A' l n c' w' h1 h2 (by omega))
  generalize Stu.va C x = V at *
  clear hl hn haf sz hx
  go_enter Tryd.func27, Tryd.ntmps27
  go_wp2_with fail
  go_loopw [5, 10] (fun v j wr => ∃ k : Nat, k ≤ n ∧ j = .int .i64 (k : Int) ∧ Own wr w.heap.size v ((C.take k).map af) ∧ Kp w wr) (fun _ j _ => n - (intOf j).toNat)
  case atStart => exact ⟨0, Nat.zero_le _, rfl, Own.none _ _, Kp.rfl' _⟩
  case round =>
    obtain ⟨k, hk, rfl, ho, hkp⟩ := hrel
    have HO := Lib.hid ho
    have HK := Lib.hid hkp
    clear ho hkp
    by_cases hlt : k < n
    · obtain ⟨ad, A', c', rfl, _, x1, hc', hl'⟩ := (HL.out.keep HK.out) k (by have := HN.out; omega)
      have hkC : k < C.length := by have := HN.out; omega
      have mem : C.getD k [] ∈ C := by
        rw [List.getD_eq_getElem?_getD, List.getElem?_eq_getElem hkC]; exact List.getElem_mem hkC
      have TK := Lib.hid (show (C.take (k + 1)).map af = (C.take k).map af ++ [af (C.getD k [])] by
        rw [List.take_add_one, List.getD_eq_getElem?_getD, List.getElem?_eq_getElem hkC, List.map_append]; rfl)
      have AF := Lib.hid (AFT.out A' (C.getD k []) _ c' wr hl' rfl hc' mem)
      have hlen : ((C.take k).map af).length + 1 ≤ 17000000000000 := by rw [List.length_map, List.length_take]; omega
      generalize C.getD k [] = g at *
      generalize af g = z at *
      clear hl' mem hc'
      go_wp2_with fail
      refine (AF.out).mono ?_; rintro e w2 ⟨rfl, k2⟩
      have HO2 := Lib.hid (HO.out.kp k2)
      have HK2 := Lib.hid (HK.out.trans k2)
      have HSZ := HK2.out.size
      clear k2
      go_wp2_with (at_builtin; refine wpList_push rfl _ _ rfl w.heap.size _ ((C.take k).map af) z w2.heap.size 1 rfl rfl (HO2.out.new _) (cell_made _ _ _ _ 0 rfl) hlen (Nat.le_trans HSZ ((Kp.rfl' _).new _).size) ?_; intro v' w' h1 h2 _; have HO' := Lib.hid h1; have HK' := Lib.hid (show Kp w w' from own_below (HO2.out.new _) (HK2.out.new _) (Nat.le_trans HSZ ((Kp.rfl' _).new _).size) h2); clear h1 h2)
      go_roundw
      case rel => exact ⟨k + 1, by omega, by go_num, by rw [TK.out]; exact HO'.out, HK'.out⟩
      case measure => simp [intOf]; omega
    · obtain rfl : k = n := by omega
      obtain ⟨A', c', rfl, l', _⟩ := HO.out.cap
      have LM := Lib.hid (show ((C.take k).map af).length = k by rw [List.length_map, List.length_take, HN.out]; omega)
      have VT := Lib.hid (show Stu.trn ((C.take k).map af) = V by rw [← VA.out, List.take_of_length_le (by rw [HN.out]; exact Nat.le_refl _)])
      rw [LM.out]
      have T := Lib.hid (TN.out A' ((C.take k).map af) c' wr l' LM.out)
      rw [VT.out] at T
      clear HO l'
      go_wp2_with fail
      refine (T.out).mono ?_; rintro e w2 ⟨rfl, rfl⟩
      go_wp2_with fail
      go_ret
      exact ⟨rfl, HK.out⟩

/-- Numbers that lie apart from what the slice v owns. -/
def Off (w : World) (v : Value) (A : Option Addr) (l : List Int) : Prop := ∀ k, k < l.length → ∃ ad, A = some ad ∧ ad.block < w.heap.size ∧ v.ownBlock ≠ some ad.block ∧ w.cell? (ad.add k) = some (.int .i64 (l.getD k 0))
theorem cell_of_heap {w w' : World} {p : Addr} (h : w'.heap[p.block]? = w.heap[p.block]?) : w'.cell? p = w.cell? p := by
  unfold World.cell?; rw [h]
section
variable {w w' : World} {v v' : Value} {A : Option Addr} {l : List Int}
theorem Off.lies (h : Off w v A l) : Lies w A l := fun k hk => by
  obtain ⟨ad, e, a, _, c⟩ := h k hk
  exact ⟨ad, e, a, c⟩
theorem Off.keep (h : Off w v A l) (hk : Kp w w') : Off w' v A l := fun k hk' => by
  obtain ⟨ad, e, a, b, c⟩ := h k hk'
  exact ⟨ad, e, Nat.lt_of_lt_of_le a hk.size, b, (hk.cell (p := ad.add k) (by rw [block_add]; omega)).trans c⟩
theorem Off.push (h : Off w v A l) (hg : w.grownBy w' v.ownBlock) (ha : At w v v') : Off w' v' A l := fun k hk => by
  obtain ⟨ad, e, a, b, c⟩ := h k hk
  have hb := hg.block ad.block a (fun e => b e.symm)
  refine ⟨ad, e, Nat.lt_of_lt_of_le a hg.size, ?_, ?_⟩
  · rcases ha with ha | ha
    · rw [ha]; exact b
    · rw [ha]; intro e'; injection e' with e'; omega
  · rw [cell_of_heap (w := w) (by rw [block_add]; exact hb)]; exact c
theorem Off.of {g : Nat} (h : Lies w A l) (hv : v.ownBlock = some g) (ho : ∀ ad, A = some ad → ad.block ≠ g) : Off w v A l := fun k hk => by
  obtain ⟨ad, e, a, c⟩ := h k hk
  exact ⟨ad, e, a, by rw [hv]; intro e'; injection e' with e'; exact ho ad e e'.symm, c⟩
end
/-- Rows that lie beneath a row of heads of the call's own. -/
structure Rows (w : World) (B : Nat) (v : Value) (C : List (List Int)) : Prop where
  top : ∃ H : Nat → Value, HdsV w B v C.length H ∧ ∀ i, i < C.length → ∃ A c, H i = .slice A (C.getD i []).length c ∧ (C.getD i []).length ≤ c ∧ Off w v A (C.getD i [])
theorem Rows.keep {w w' : World} {B : Nat} {v : Value} {C : List (List Int)} (h : Rows w B v C) (hk : Kp w w') : Rows w' B v C := by
  obtain ⟨H, h1, h2⟩ := h.top
  refine ⟨H, h1.kp hk, fun i hi => ?_⟩
  obtain ⟨A, c, e, hc, ho⟩ := h2 i hi
  exact ⟨A, c, e, hc, ho.keep hk⟩
theorem Rows.lies {w : World} {B : Nat} {v : Value} {C : List (List Int)} (h : Rows w B v C) : ∃ A c, v = .slice A C.length c ∧ C.length ≤ c ∧ LiesM w A C := by
  obtain ⟨H, h1, h2⟩ := h.top
  exact h1.lies rfl fun i hi => by
    obtain ⟨A, c, e, hc, ho⟩ := h2 i hi
    exact ⟨A, c, e, hc, ho.lies⟩
theorem rows_lit {w w1 : World} {A : Option Addr} {l : List Int} {n c : Nat} (hl : Lies w A l) (hn : l.length = n) (hc : n ≤ c) (e : w1 = w.alloc (.cells #[.slice A n c] 22)) :
    Rows w1 w.heap.size (.slice (some ⟨w.heap.size, 0, none⟩) 1 1) [l] ∧ Off w1 (.slice (some ⟨w.heap.size, 0, none⟩) 1 1) A l ∧ Kp w w1 := by
  subst e
  have k : Kp w (w.alloc (.cells #[.slice A n c] 22)) := (Kp.rfl' w).new _
  have off : Off (w.alloc (.cells #[.slice A n c] 22)) (.slice (some ⟨w.heap.size, 0, none⟩) 1 1) A l := fun i hi => by
    obtain ⟨ad, e, a, c'⟩ := hl i hi
    obtain ⟨ad', e2, a2, c2⟩ := (hl.keep k) i hi
    rw [e] at e2
    obtain rfl := Option.some.inj e2
    exact ⟨ad, e, a2, fun e' => by have e' : some w.heap.size = some ad.block := e'; injection e' with e'; omega, c2⟩
  refine ⟨⟨fun _ => .slice A n c, ?_, fun i hi => ?_⟩, off, k⟩
  · exact ⟨by simp, .inr ⟨w.heap.size, 1, _, rfl, Nat.le_refl _, heap_alloc_new w _, Nat.le_refl _, by unfold maxLen; omega, by simp, by simp⟩⟩
  · have : i = 0 := by simpa using hi
    subst this
    exact ⟨A, c, by show Value.slice A n c = .slice A l.length c; rw [hn], by show l.length ≤ c; omega, off⟩

section
variable {ops : Array Oper} {rest : List Oper} {o : Oper} {a : Act} {w : World} {K : Act → World → Prop} {Q : Exit → Act → World → Prop}
/-- out = append(out, row). -/
theorem wpList_pushR (hgd : o.guard = Option.none) (s x : Operand) (ho : o.op = .call { callee := .builtin .append, args := #[s, x], argTypes := #[29, 29] })
    (B : Nat) (v : Value) (C : List (List Int)) (A : Option Addr) (l : List Int) (n c gb cb : Nat) (hn : l.length = n) (hc : n ≤ c) (hs : a.eval s = v) (hx : a.eval x = .slice (some ⟨gb, 0, none⟩) 1 cb) (hown : Rows w B v C)
    (hcell : w.cell? ⟨gb, 0, none⟩ = some (.slice A n c)) (hoff : Off w v A l) (hlen : C.length + 1 ≤ 1000000) (hB : B ≤ w.heap.size)
    (h : ∀ v' w', Rows w' B v' (C ++ [l]) → w.grownBy w' v.ownBlock → At w v v' → (∀ w0 : World, w0.heap.size ≤ B → Kp w0 w → Kp w0 w') → wpList Tryd.prog ops Q rest (a.put o.dst v') w') : wpList Tryd.prog ops Q (o :: rest) a w := by
  obtain ⟨i0, hi, hz0, hz1, hz2⟩ := info_parts ints_info
  obtain ⟨H, ht, hr⟩ := hown.top
  obtain ⟨v', w', hrun, h1, h2, _, h3⟩ := run_append_own_at (P := Tryd.prog) w B 29 o.type 22 i0 (.slice Option.none 0 0) 1 24 Tryd.underlying29 hi hz0 hz1 hz2 rfl (by decide) v C.length ((List.range C.length).map H) ht ⟨gb, 0, Option.none⟩ 1 cb [.slice A n c] rfl
    (fun j u' hj => by
      match j, hj with
      | 0, hj => simp at hj; subst hj; rw [add_at]; exact hcell) (fun u' hu' => by simp at hu'; subst hu'; rfl) (by unfold maxLen; omega) (by omega) hB
  refine wpList_plain hgd fun _ hK => ?_
  unfold Oper.wp execOp
  simp only [ho, resolve, invoke, builtin, Sem.run_bind, Sem.run_pure, Result.andThen_ok, List.map_toArray, List.map_cons, List.map_nil, hs, hx, hrun]
  refine hK _ _ (h v' w' ⟨fun i => if i = C.length then .slice A n c else H i, ?_, fun i hi => ?_⟩ h2 h3 fun w0 hw0 hk0 => Below.grown hk0 h2 hk0.size fun k hk => Nat.le_trans hw0 (World.ownsRow.lt ht k hk).1)
  · have e1 : (List.range C.length).map (fun i => if i = C.length then Value.slice A n c else H i) = (List.range C.length).map H := List.map_congr_left fun i hi => by
      have := List.mem_range.1 hi
      rw [if_neg (by omega)]
    have e2 : (List.range (C.length + 1)).map (fun i => if i = C.length then Value.slice A n c else H i) = (List.range C.length).map H ++ [.slice A n c] := by
      rw [List.range_succ, List.map_append, e1, List.map_singleton, if_pos rfl]
    rw [List.length_append, List.length_singleton]
    unfold HdsV
    rw [e2]
    exact h1
  · rw [List.length_append, List.length_singleton] at hi
    by_cases e : i = C.length
    · subst e
      rw [show (C ++ [l]).getD C.length [] = l by simp]
      exact ⟨A, c, by show (if C.length = C.length then Value.slice A n c else H C.length) = _; rw [if_pos rfl, hn], by omega, hoff.push h2 h3⟩
    · have hi' : i < C.length := by omega
      rw [show (C ++ [l]).getD i [] = C.getD i [] by
        rw [List.getD_eq_getElem?_getD, List.getD_eq_getElem?_getD, List.getElem?_append_left hi']]
      obtain ⟨A', c', e', hc', ho'⟩ := hr i hi'
      exact ⟨A', c', by show (if i = C.length then Value.slice A n c else H i) = _; rw [if_neg e]; exact e', hc', ho'.push h2 h3⟩
end
theorem Rows.own {w : World} {B : Nat} {v : Value} {C : List (List Int)} (h : Rows w B v C) (h0 : C ≠ []) : ∃ g, v.ownBlock = some g ∧ B ≤ g ∧ g < w.heap.size := by
  obtain ⟨H, h1, h2⟩ := h.top
  have hp := List.length_pos_iff.2 h0
  rcases h1.2 with ⟨_, h3⟩ | ⟨g, cap, cur, e, _⟩
  · have h3 : C.length = 0 := h3
    omega
  · exact ⟨g, by rw [e]; rfl, World.ownsRow.lt h1 g (by rw [e]; rfl)⟩

/-- Where the loop stands: the rows so far, the last two, and what is still to come. -/
structure Cha (L : List Int) (w0 : World) (v : Value) (A1 A2 : Option Addr) (a b : List Int) (c1 c2 : Nat) (w : World) : Prop where
  ex : ∃ (D : List (List Int)) (j : Nat), Rows w w0.heap.size v D ∧ D ≠ [] ∧ b.length ≤ j ∧ D ++ (if b = [] then [] else b :: Stu.ptl j a b) = Stu.pch L
  o1 : Off w v A1 a
  o2 : Off w v A2 b
  l1 : a.length ≤ c1
  l2 : b.length ≤ c2
  goo : b ≠ [] → Stu.Goo a b ∧ Stu.Tp b
  kp : Kp w0 w
theorem pch_start (l : List Int) : [l] ++ (if Stu.slp l = [] then [] else Stu.slp l :: Stu.ptl 8 l (Stu.slp l)) = Stu.pch l := by
  unfold Stu.pch; split <;> rfl

end Go.Proofs.YtbdpcpodmmhjaaaDoor
