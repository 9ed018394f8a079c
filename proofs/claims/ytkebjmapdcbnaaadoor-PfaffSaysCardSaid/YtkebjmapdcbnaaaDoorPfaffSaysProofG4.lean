/- Several texts, one behind the other: HdsV, ZDet, ZDetH, Told, ErrK, ErrG, RowsG, PfSays. -/
import Derived.Test.YtkebjmapdcbnaaaDoorPfaffSaysProofG3
import Derived.Test.YtkebjmapdcbnaaaDoorPfaffSaysProofG2
import Derived.Test.YtkebjmapdcbnaaaDoorProg
import Derived.WalkKit
import Derived.LaidEql
import Derived.Stop.Asserts
import Derived.RowKitTokens
import Derived.Handy
import Derived.Test.YtkebjmapdcbnaaaDoorPfaffSaysProofG1
import Derived.ProofKit
import Derived.OpenShut
import Derived.Lib.Hide

/- A row of heads of the call's own, whatever they point to: append of one, and the matrix that lies. For all packages. -/
namespace Go.Proofs.YtkebjmapdcbnaaaDoor
open Go.ChangeShapes Go.WideShapes Go.ChangeAt Go.RowKit
set_option linter.unusedVariables false

/-- The slice value v is the call's own and holds k heads. -/
def HdsV (w : World) (B : Nat) (v : Value) (k : Nat) (H : Nat → Value) : Prop := w.ownsRow B 33 1 v k ((List.range k).map H)
theorem hdsV_none (w : World) (B : Nat) (H : Nat → Value) : HdsV w B (.slice none 0 0) 0 H := World.ownsRow_nil _ _ _ _
theorem HdsV.kp {w w' : World} {B k : Nat} {v : Value} {H : Nat → Value} (h : HdsV w B v k H) (hk : Kp w w') : HdsV w' B v k H := ownsRow_kp h hk
theorem HdsV.new {w : World} {B k : Nat} {v : Value} {H : Nat → Value} (h : HdsV w B v k H) (o : Obj) : HdsV (w.alloc o) B v k H := h.kp ((Kp.rfl' w).new o)
/-- Where they lie, and what lies beneath. -/
theorem HdsV.form {w : World} {B k : Nat} {v : Value} {H : Nat → Value} (h : HdsV w B v k H) : ∃ A c, v = .slice A k c ∧ k ≤ c ∧ ∀ i, i < k → ∃ ad, A = some ad ∧ ad.block < w.heap.size ∧ w.cell? (ad.add i) = some (H i) := by
  rcases h.2 with ⟨rfl, h0⟩ | ⟨g, cap, cur, hv, hg, hh, hc, hm, hs, ht⟩
  · obtain rfl : k = 0 := h0
    exact ⟨Option.none, 0, rfl, Nat.le_refl _, fun i hi => absurd hi (by omega)⟩
  · refine ⟨_, cap, hv, hc, fun i hi => ⟨_, rfl, ?_, ?_⟩⟩
    · rcases Nat.lt_or_ge g w.heap.size with h' | h'
      · exact h'
      · rw [Array.getElem?_eq_none h'] at hh; cases hh
    · have ht' : cur.toList.take k = (List.range k).map H := by simpa using ht
      rw [add_at, cell_of_row _ _ i _ _ (0, 0) hh, ← Array.getElem?_toList, ← List.getElem?_take_of_lt hi, ht']
      simp [hi]
theorem HdsV.lies {w : World} {B k : Nat} {v : Value} {H : Nat → Value} {m : List (List Int)} (h : HdsV w B v k H) (hm : m.length = k) (hr : ∀ i, i < k → ∃ A' c, H i = .slice A' (m.getD i []).length c ∧ (m.getD i []).length ≤ c ∧ Lies w A' (m.getD i [])) : ∃ A c, v = .slice A k c ∧ k ≤ c ∧ LiesM w A m := by
  obtain ⟨A, c, hv, hc, hx⟩ := h.form
  refine ⟨A, c, hv, hc, fun i hi => ?_⟩
  obtain ⟨ad, e, hl, hcell⟩ := hx i (by omega)
  obtain ⟨A', c', e2, h2, h3⟩ := hr i (by omega)
  exact ⟨ad, A', c', e, hl, by rw [hcell, e2], h2, h3⟩

section
variable {ops : Array Oper} {rest : List Oper} {o : Oper} {a : Act} {w : World} {K : Act → World → Prop} {Q : Exit → Act → World → Prop}
/-- out = append(out, head). -/
theorem wpList_pushV (hgd : o.guard = Option.none) (s x : Operand) (ho : o.op = .call { callee := .builtin .append, args := #[s, x], argTypes := #[22, 22] })
    (B : Nat) (v : Value) (k : Nat) (H : Nat → Value) (u : Value) (gb cb : Nat) (hs : a.eval s = v) (hx : a.eval x = .slice (some ⟨gb, 0, none⟩) 1 cb) (hown : HdsV w B v k H)
    (hcell : w.cell? ⟨gb, 0, none⟩ = some u) (hu : u.oneCell' = true) (hlen : k + 1 ≤ 1000000) (hB : B ≤ w.heap.size)
    (h : ∀ v' w', HdsV w' B v' (k + 1) (fun i => if i = k then u else H i) → (∀ w0 : World, w0.heap.size ≤ B → Kp w0 w → Kp w0 w') → wpList Tryd.prog ops Q rest (a.put o.dst v') w') : wpList Tryd.prog ops Q (o :: rest) a w := by
  obtain ⟨i0, hi, hz0, hz1, hz2⟩ := info_parts ints_info
  obtain ⟨v', w', hrun, h1, h2, _, h3⟩ := run_append_own_at (P := Tryd.prog) w B 22 o.type 33 i0 (.slice Option.none 0 0) 1 24 Tryd.underlying22 hi hz0 hz1 hz2 rfl (by decide) v k ((List.range k).map H) hown ⟨gb, 0, Option.none⟩ 1 cb [u] rfl
    (fun j u' hj => by
      match j, hj with
      | 0, hj => simp at hj; subst hj; rw [add_at]; exact hcell) (fun u' hu' => by simp at hu'; subst hu'; exact hu) (by unfold maxLen; omega) (by omega) hB
  refine wpList_plain hgd fun _ hK => ?_
  unfold Oper.wp execOp
  simp only [ho, resolve, invoke, builtin, Sem.run_bind, Sem.run_pure, Result.andThen_ok, List.map_toArray, List.map_cons, List.map_nil, hs, hx, hrun]
  refine hK _ _ (h v' w' ?_ fun w0 hw0 hk0 => Below.grown hk0 h2 hk0.size fun k hk => Nat.le_trans hw0 (World.ownsRow.lt hown k hk).1)
  have e1 : (List.range k).map (fun i => if i = k then u else H i) = (List.range k).map H := List.map_congr_left fun i hi => by
    have := List.mem_range.1 hi
    rw [if_neg (by omega)]
  have e2 : (List.range (k + 1)).map (fun i => if i = k then u else H i) = (List.range k).map H ++ [u] := by
    rw [List.range_succ, List.map_append, e1, List.map_singleton, if_pos rfl]
  unfold HdsV
  rw [e2]
  exact h1
end

end Go.Proofs.YtkebjmapdcbnaaaDoor

/- The document's determinant of whole numbers, and its corner of a matrix. For all packages. -/
namespace Go.Proofs.YtkebjmapdcbnaaaDoor
open Go.ChangeShapes Go.WideShapes Go.ChangeAt Go.RowKit
set_option linter.unusedVariables false

theorem Zx.sgn_I (j : Nat) : Zx.sgn j = sgnI j := rfl
theorem Zx.wo_del (f : Nat → Nat → Int) (j : Nat) : Zx.wo f 0 j = Zx.del j f := by
  funext a b
  unfold Zx.wo Zx.del
  congr 1

/-- The products and sums of an expansion by the first row are small. -/
theorem exp_bound {p : Nat} {f : Nat → Nat → Int} (hp : p < 5) (h : ∀ i j, i < p + 1 → j < p + 1 → -9 ≤ f i j ∧ f i j ≤ 9) {k : Nat} (hk : k ≤ p + 1) :
    (-500000000 ≤ (Zx.sg k fun j => Zx.sgn j * f 0 j * Zx.dt p (Zx.del j f)) ∧ (Zx.sg k fun j => Zx.sgn j * f 0 j * Zx.dt p (Zx.del j f)) ≤ 500000000) ∧
      (k < p + 1 → (-9 ≤ sgnI k * f 0 k ∧ sgnI k * f 0 k ≤ 9) ∧ -70000000 ≤ sgnI k * f 0 k * Zx.dt p (Zx.del k f) ∧ sgnI k * f 0 k * Zx.dt p (Zx.del k f) ≤ 70000000) := by
  have hd : ∀ j, j < p + 1 → -7085880 ≤ Zx.dt p (Zx.del j f) ∧ Zx.dt p (Zx.del j f) ≤ 7085880 := fun j hj => by
    refine Zx.dt_bound (n := p) (by omega) (fun a b ha hb => ?_) (Nat.le_refl p)
    have := h (a + 1) (Mx.sk j b) (by omega) (Mx.sk_lt hb)
    show Zx.ab (f (a + 1) (Mx.sk j b)) ≤ 9
    unfold Zx.ab; omega
  have hm : ∀ j, j < p + 1 → (-9 ≤ sgnI j * f 0 j ∧ sgnI j * f 0 j ≤ 9) ∧ -70000000 ≤ sgnI j * f 0 j * Zx.dt p (Zx.del j f) ∧ sgnI j * f 0 j * Zx.dt p (Zx.del j f) ≤ 70000000 := fun j hj => by
    have h1 := hd j hj
    have h2 := h 0 j (by omega) hj
    have h3 : -9 ≤ sgnI j * f 0 j ∧ sgnI j * f 0 j ≤ 9 := by
      rcases sgnI_some j with e | e <;> rw [e] <;> omega
    generalize sgnI j * f 0 j = a at *
    generalize Zx.dt p (Zx.del j f) = b at *
    have e : (a * b).natAbs ≤ 9 * 7085880 := by
      rw [Int.natAbs_mul]
      exact Nat.mul_le_mul (by omega) (by omega)
    omega
  refine ⟨?_, fun hk' => hm k hk'⟩
  have : ∀ q, q ≤ p + 1 → -(70000000 * (q : Int)) ≤ (Zx.sg q fun j => Zx.sgn j * f 0 j * Zx.dt p (Zx.del j f)) ∧ (Zx.sg q fun j => Zx.sgn j * f 0 j * Zx.dt p (Zx.del j f)) ≤ 70000000 * (q : Int) := by
    intro q
    induction q with
    | zero => intro _; rw [Zx.sg_zero]; omega
    | succ q ih =>
      intro hq
      have h1 := ih (by omega)
      have h2 := (hm q (by omega)).2
      rw [Zx.sg_succ, Zx.sgn_I]
      omega
  have := this k hk
  omega

set_option maxRecDepth 100000 in
set_option maxHeartbeats 6400000 in
theorem rDet_step (A : Option Addr) (f : Nat → Nat → Int) (p n d : Nat) (w : World) (ha : LiesM w A (Mx.tab n n f)) (hn : n = p + 1) (hp : p < 5) (hf : ∀ i j, i < n → j < n → -9 ≤ f i j ∧ f i j ≤ 9)
    (ih : ∀ (A : Option Addr) (f : Nat → Nat → Int) (d : Nat) (w : World), (∀ i j, i < p → j < p → -9 ≤ f i j ∧ f i j ≤ 9) → LiesM w A (Mx.tab p p f) → Calls Tryd.prog 8 #[.slice A p d] w fun e w' => e = .returned (.int .i64 (Zx.dt p f)) ∧ Kp w w') :
    Calls Tryd.prog 8 #[.slice A n d] w fun e w' => e = .returned (.int .i64 (Zx.dt n f)) ∧ Kp w w' := by
  have HA := Lib.hid ha
  have IH := Lib.hid ih
  have hdt : Zx.dt n f = Zx.sg n fun j => Zx.sgn j * f 0 j * Zx.dt p (Zx.del j f) := by rw [hn]; rfl
  rw [hdt]
  have h0 : 0 < n := by omega
  have hn1 : n ≤ 1001 := by omega
  have e0 : ((n : Int) == 0) = false := by rw [beq_eq_false_iff_ne]; omega
  have WO := Lib.hid (fun (k : Nat) (w : World) (hk : k < n) (h : LiesM w A (Mx.tab n n f)) => show Calls Tryd.prog 17 #[.slice A n d, .int .i64 0, .int .i64 (k : Int)] w fun e w' => ∃ A d, e = .returned (.slice A p d) ∧ LiesM w' A (Mx.tab p p (Zx.del k f)) ∧ Kp w w' by
    subst hn
    have := rWithoutZ_any A f p 0 k d w h (Nat.zero_le _) (by omega) (by omega)
    rw [Int.toNat_natCast, Zx.wo_del] at this
    exact this)
  have BND := Lib.hid (fun (k : Nat) (hk : k ≤ n) => exp_bound (p := p) (f := f) hp (by rw [← hn]; exact hf) (k := k) (by omega))
  have BND2 := Lib.hid (fun (k : Nat) (hk : k < n) => (exp_bound (p := p) (f := f) hp (by rw [← hn]; exact hf) (k := k) (by omega)).2 (by omega))
  have DB := Lib.hid (fun (k : Nat) (hk : k < n) => show ∀ i j, i < p → j < p → -9 ≤ Zx.del k f i j ∧ Zx.del k f i j ≤ 9 from fun i j hi hj => hf (i + 1) (Mx.sk k j) (by omega) (by rw [hn]; exact Mx.sk_lt hj))
  clear ha ih hdt hn hf
  go_enter Tryd.func8, Tryd.ntmps8
  go_wp2_with fail
  go_loopw [3, 4, 5] (fun s g i wr => ∃ k : Nat, k ≤ n ∧ i = .int .i64 (k : Int) ∧ g = .int .i64 (sgnI k) ∧ s = .int .i64 (Zx.sg k fun j => Zx.sgn j * f 0 j * Zx.dt p (Zx.del j f)) ∧ Kp w wr) (fun _ _ i _ => n - (intOf i).toNat)
  case atStart => exact ⟨0, Nat.zero_le _, rfl, rfl, rfl, Kp.rfl' _⟩
  case round =>
    obtain ⟨k, hk, rfl, rfl, rfl, hkp⟩ := hrel
    have HK := Lib.hid hkp
    by_cases hlt : k < n
    · obtain ⟨ad, A0, d0, ea, hl0, x1, _, l1⟩ := (HA.out.keep hkp).row h0
      subst ea
      rw [add_zero'] at x1
      obtain ⟨ad1, ea, hl1, x2⟩ := l1.el hlt
      subst ea
      obtain ⟨s, hs⟩ : ∃ s, s = Zx.sg k fun j => Zx.sgn j * f 0 j * Zx.dt p (Zx.del j f) := ⟨_, rfl⟩
      have hbs := (BND.out k hk).1
      have hbm := BND2.out k hlt
      have hs2 : (Zx.sg (k + 1) fun j => Zx.sgn j * f 0 j * Zx.dt p (Zx.del j f)) = s + sgnI k * f 0 k * Zx.dt p (Zx.del k f) := by rw [Zx.sg_succ, hs, Zx.sgn_I]
      rw [← hs] at hbs ⊢
      have HSG := Lib.hid (sgnI_succ k)
      have hsg := sgnI_some k
      have hneg : IntKind.i64.wrap (-(sgnI k)) = -(sgnI k) := IntWalk.i64_in _ (by omega)
      have D1 := Lib.hid (DB.out k hlt)
      clear l1 hs
      by_cases hz : f 0 k = 0
      · have HS := Lib.hid (show s = Zx.sg (k + 1) fun j => Zx.sgn j * f 0 j * Zx.dt p (Zx.del j f) by rw [hs2, hz]; simp)
        rw [hz] at x2
        generalize sgnI k = gi at *
        clear hbs hbm hkp hz hs2
        go_wp2_with fail
        go_roundw
        case rel => exact ⟨k + 1, by omega, by go_num, by rw [HSG.out], by rw [HS.out], HK.out⟩
        case measure => simp [intOf]; omega
      · have e1 : ((f 0 k) != 0) = true := by rw [bne_iff_ne]; exact hz
        have HI := Lib.hid (fun A' d' w' h => IH.out A' (Zx.del k f) d' w' D1.out h)
        have HS := Lib.hid hs2
        generalize (f 0 k) = xv at *
        generalize (Zx.dt p (Zx.del k f)) = dv at *
        generalize sgnI k = gi at *
        obtain ⟨y, hy⟩ : ∃ y, y = gi * xv := ⟨_, rfl⟩
        rw [← hy] at hbm HS
        obtain ⟨z, hz'⟩ : ∃ z, z = y * dv := ⟨_, rfl⟩
        rw [← hz'] at hbm HS
        have hw1 : IntKind.i64.wrap (gi * xv) = y := by rw [← hy]; exact IntWalk.i64_in _ (by omega)
        have hw2 : IntKind.i64.wrap (y * dv) = z := by rw [← hz']; exact IntWalk.i64_in _ (by omega)
        have hw3 : IntKind.i64.wrap (s + z) = s + z := IntWalk.i64_in _ (by omega)
        have kd : Kp wr wr.drew := (Kp.rfl' wr).drewN 1
        have W1 := Lib.hid (WO.out k wr.drew hlt (HA.out.keep (hkp.trans kd)))
        have SK := Lib.hid (fun (w' : World) (h : Kp wr w') => (show w'.cell? ad = some (.slice (some ad1) n d0) ∧ w'.cell? (ad1.add k) = some (.int .i64 xv) ∧ Kp wr w' from
          ⟨(h.cell (p := ad) hl0).trans x1, (h.cell (p := ad1.add k) (by rw [block_add]; exact hl1)).trans x2, h⟩))
        clear hbs hbm hkp hz hs2 hy hz' hsg
        go_wp2_with fail
        go_region_held3 (fun w' => w'.cell? ad = some (.slice (some ad1) n d0) ∧ w'.cell? (ad1.add k) = some (.int .i64 xv) ∧ Kp wr w')
          (first
          | exact SK.out _ (Kp.rfl' _)
          | exact SK.out _ kd
          | exact SK.out _ (kd.trans k1)
          | exact SK.out _ ((kd.trans k1).trans k2))
          ((first
          | (go_at_call 17; (with_reducible refine (W1.out).mono ?_); rintro e w1 ⟨A1, c1, rfl, l1, k1⟩)
          | (go_at_call 8; (with_reducible refine (HI.out A1 c1 _ l1).mono ?_); rintro e w2 ⟨rfl, k2⟩)))
        have HK2 := Lib.hid (HK.out.trans ((kd.trans k1).trans k2))
        clear k1 k2 l1 x1 x2
        go_wp2_with fail
        go_roundw
        case rel => exact ⟨k + 1, by omega, by go_num, by rw [HSG.out], by rw [HS.out], HK2.out⟩
        case measure => simp [intOf]; omega
    · obtain rfl : k = n := by omega
      clear hkp
      go_wp2_with fail
      go_ret
      exact ⟨rfl, HK.out⟩

theorem rDet_any : ∀ (n : Nat) (hn : n ≤ 5) (A : Option Addr) (f : Nat → Nat → Int) (d : Nat) (w : World) (hf : ∀ i j, i < n → j < n → -9 ≤ f i j ∧ f i j ≤ 9) (ha : LiesM w A (Mx.tab n n f)),
    Calls Tryd.prog 8 #[.slice A n d] w fun e w' => e = .returned (.int .i64 (Zx.dt n f)) ∧ Kp w w'
  | 0, _, A, f, d, w, hf, ha => by
    have e1 : Zx.dt 0 f = 1 := rfl
    rw [e1]
    clear ha hf
    go_enter Tryd.func8, Tryd.ntmps8
    go_wp2
    go_ret
    exact ⟨rfl, Kp.rfl' _⟩
  | p + 1, hp, A, f, d, w, hf, ha => rDet_step A f p (p + 1) d w ha rfl (by omega) hf (fun A f d w hf h => rDet_any p (by omega) A f d w hf h)

theorem row_take {n k : Nat} (g : Nat → Int) (h : k ≤ n) : (Mx.row n g).take k = Mx.row k g := by
  unfold Mx.row
  rw [← List.map_take, List.take_range, Nat.min_eq_left h]


end Go.Proofs.YtkebjmapdcbnaaaDoor

/- The document's determinant of whole numbers, of up to six rows of larger numbers. For all packages. -/
namespace Go.Proofs.YtkebjmapdcbnaaaDoor
open Go.ChangeShapes Go.WideShapes Go.ChangeAt Go.RowKit
set_option linter.unusedVariables false

theorem Zx.fb_hundred {n : Nat} (h : n ≤ 5) : Zx.fb 100 n ≤ 1200000000000 := by
  have : n = 0 ∨ n = 1 ∨ n = 2 ∨ n = 3 ∨ n = 4 ∨ n = 5 := by omega
  rcases this with e | e | e | e | e | e <;> rw [e] <;> decide +kernel
theorem Zx.dt_boundH {n : Nat} {x : Nat → Nat → Int} (h5 : n ≤ 5) (hx : ∀ i j, i < n → j < n → Zx.ab (x i j) ≤ 100) {q : Nat} (hq : q ≤ n) : -1200000000000 ≤ Zx.dt q x ∧ Zx.dt q x ≤ 1200000000000 := by
  have h1 := Zx.dt_ab (M := 100) (by omega) q x fun i j hi hj => hx i j (by omega) (by omega)
  have h2 := Zx.fb_hundred (n := q) (by omega)
  unfold Zx.ab at h1
  omega

/-- The products and sums of an expansion by the first row are small. -/
theorem exp_boundH {p : Nat} {f : Nat → Nat → Int} (hp : p < 6) (h : ∀ i j, i < p + 1 → j < p + 1 → -100 ≤ f i j ∧ f i j ≤ 100) {k : Nat} (hk : k ≤ p + 1) :
    (-720000000000000 ≤ (Zx.sg k fun j => Zx.sgn j * f 0 j * Zx.dt p (Zx.del j f)) ∧ (Zx.sg k fun j => Zx.sgn j * f 0 j * Zx.dt p (Zx.del j f)) ≤ 720000000000000) ∧
      (k < p + 1 → (-100 ≤ sgnI k * f 0 k ∧ sgnI k * f 0 k ≤ 100) ∧ -120000000000000 ≤ sgnI k * f 0 k * Zx.dt p (Zx.del k f) ∧ sgnI k * f 0 k * Zx.dt p (Zx.del k f) ≤ 120000000000000) := by
  have hd : ∀ j, j < p + 1 → -1200000000000 ≤ Zx.dt p (Zx.del j f) ∧ Zx.dt p (Zx.del j f) ≤ 1200000000000 := fun j hj => by
    refine Zx.dt_boundH (n := p) (by omega) (fun a b ha hb => ?_) (Nat.le_refl p)
    have := h (a + 1) (Mx.sk j b) (by omega) (Mx.sk_lt hb)
    show Zx.ab (f (a + 1) (Mx.sk j b)) ≤ 100
    unfold Zx.ab; omega
  have hm : ∀ j, j < p + 1 → (-100 ≤ sgnI j * f 0 j ∧ sgnI j * f 0 j ≤ 100) ∧ -120000000000000 ≤ sgnI j * f 0 j * Zx.dt p (Zx.del j f) ∧ sgnI j * f 0 j * Zx.dt p (Zx.del j f) ≤ 120000000000000 := fun j hj => by
    have h1 := hd j hj
    have h2 := h 0 j (by omega) hj
    have h3 : -100 ≤ sgnI j * f 0 j ∧ sgnI j * f 0 j ≤ 100 := by
      rcases sgnI_some j with e | e <;> rw [e] <;> omega
    generalize sgnI j * f 0 j = a at *
    generalize Zx.dt p (Zx.del j f) = b at *
    have e : (a * b).natAbs ≤ 100 * 1200000000000 := by
      rw [Int.natAbs_mul]
      exact Nat.mul_le_mul (by omega) (by omega)
    omega
  refine ⟨?_, fun hk' => hm k hk'⟩
  have : ∀ q, q ≤ p + 1 → -(120000000000000 * (q : Int)) ≤ (Zx.sg q fun j => Zx.sgn j * f 0 j * Zx.dt p (Zx.del j f)) ∧ (Zx.sg q fun j => Zx.sgn j * f 0 j * Zx.dt p (Zx.del j f)) ≤ 120000000000000 * (q : Int) := by
    intro q
    induction q with
    | zero => intro _; rw [Zx.sg_zero]; omega
    | succ q ih =>
      intro hq
      have h1 := ih (by omega)
      have h2 := (hm q (by omega)).2
      rw [Zx.sg_succ, Zx.sgn_I]
      omega
  have := this k hk
  omega

set_option maxRecDepth 100000 in
set_option maxHeartbeats 6400000 in
theorem rDetH_step (A : Option Addr) (f : Nat → Nat → Int) (p n d : Nat) (w : World) (ha : LiesM w A (Mx.tab n n f)) (hn : n = p + 1) (hp : p < 6) (hf : ∀ i j, i < n → j < n → -100 ≤ f i j ∧ f i j ≤ 100)
    (ih : ∀ (A : Option Addr) (f : Nat → Nat → Int) (d : Nat) (w : World), (∀ i j, i < p → j < p → -100 ≤ f i j ∧ f i j ≤ 100) → LiesM w A (Mx.tab p p f) → Calls Tryd.prog 8 #[.slice A p d] w fun e w' => e = .returned (.int .i64 (Zx.dt p f)) ∧ Kp w w') :
    Calls Tryd.prog 8 #[.slice A n d] w fun e w' => e = .returned (.int .i64 (Zx.dt n f)) ∧ Kp w w' := by
  have HA := Lib.hid ha
  have IH := Lib.hid ih
  have hdt : Zx.dt n f = Zx.sg n fun j => Zx.sgn j * f 0 j * Zx.dt p (Zx.del j f) := by rw [hn]; rfl
  rw [hdt]
  have h0 : 0 < n := by omega
  have hn1 : n ≤ 1001 := by omega
  have e0 : ((n : Int) == 0) = false := by rw [beq_eq_false_iff_ne]; omega
  have WO := Lib.hid (fun (k : Nat) (w : World) (hk : k < n) (h : LiesM w A (Mx.tab n n f)) => show Calls Tryd.prog 17 #[.slice A n d, .int .i64 0, .int .i64 (k : Int)] w fun e w' => ∃ A d, e = .returned (.slice A p d) ∧ LiesM w' A (Mx.tab p p (Zx.del k f)) ∧ Kp w w' by
    subst hn
    have := rWithoutZ_any A f p 0 k d w h (Nat.zero_le _) (by omega) (by omega)
    rw [Int.toNat_natCast, Zx.wo_del] at this
    exact this)
  have BND := Lib.hid (fun (k : Nat) (hk : k ≤ n) => exp_boundH (p := p) (f := f) hp (by rw [← hn]; exact hf) (k := k) (by omega))
  have BND2 := Lib.hid (fun (k : Nat) (hk : k < n) => (exp_boundH (p := p) (f := f) hp (by rw [← hn]; exact hf) (k := k) (by omega)).2 (by omega))
  have DB := Lib.hid (fun (k : Nat) (hk : k < n) => show ∀ i j, i < p → j < p → -100 ≤ Zx.del k f i j ∧ Zx.del k f i j ≤ 100 from fun i j hi hj => hf (i + 1) (Mx.sk k j) (by omega) (by rw [hn]; exact Mx.sk_lt hj))
  clear ha ih hdt hn hf
  go_enter Tryd.func8, Tryd.ntmps8
  go_wp2_with fail
  go_loopw [3, 4, 5] (fun s g i wr => ∃ k : Nat, k ≤ n ∧ i = .int .i64 (k : Int) ∧ g = .int .i64 (sgnI k) ∧ s = .int .i64 (Zx.sg k fun j => Zx.sgn j * f 0 j * Zx.dt p (Zx.del j f)) ∧ Kp w wr) (fun _ _ i _ => n - (intOf i).toNat)
  case atStart => exact ⟨0, Nat.zero_le _, rfl, rfl, rfl, Kp.rfl' _⟩
  case round =>
    obtain ⟨k, hk, rfl, rfl, rfl, hkp⟩ := hrel
    have HK := Lib.hid hkp
    by_cases hlt : k < n
    · obtain ⟨ad, A0, d0, ea, hl0, x1, _, l1⟩ := (HA.out.keep hkp).row h0
      subst ea
      rw [add_zero'] at x1
      obtain ⟨ad1, ea, hl1, x2⟩ := l1.el hlt
      subst ea
      obtain ⟨s, hs⟩ : ∃ s, s = Zx.sg k fun j => Zx.sgn j * f 0 j * Zx.dt p (Zx.del j f) := ⟨_, rfl⟩
      have hbs := (BND.out k hk).1
      have hbm := BND2.out k hlt
      have hs2 : (Zx.sg (k + 1) fun j => Zx.sgn j * f 0 j * Zx.dt p (Zx.del j f)) = s + sgnI k * f 0 k * Zx.dt p (Zx.del k f) := by rw [Zx.sg_succ, hs, Zx.sgn_I]
      rw [← hs] at hbs ⊢
      have HSG := Lib.hid (sgnI_succ k)
      have hsg := sgnI_some k
      have hneg : IntKind.i64.wrap (-(sgnI k)) = -(sgnI k) := IntWalk.i64_in _ (by omega)
      have D1 := Lib.hid (DB.out k hlt)
      clear l1 hs
      by_cases hz : f 0 k = 0
      · have HS := Lib.hid (show s = Zx.sg (k + 1) fun j => Zx.sgn j * f 0 j * Zx.dt p (Zx.del j f) by rw [hs2, hz]; simp)
        rw [hz] at x2
        generalize sgnI k = gi at *
        clear hbs hbm hkp hz hs2
        go_wp2_with fail
        go_roundw
        case rel => exact ⟨k + 1, by omega, by go_num, by rw [HSG.out], by rw [HS.out], HK.out⟩
        case measure => simp [intOf]; omega
      · have e1 : ((f 0 k) != 0) = true := by rw [bne_iff_ne]; exact hz
        have HI := Lib.hid (fun A' d' w' h => IH.out A' (Zx.del k f) d' w' D1.out h)
        have HS := Lib.hid hs2
        generalize (f 0 k) = xv at *
        generalize (Zx.dt p (Zx.del k f)) = dv at *
        generalize sgnI k = gi at *
        obtain ⟨y, hy⟩ : ∃ y, y = gi * xv := ⟨_, rfl⟩
        rw [← hy] at hbm HS
        obtain ⟨z, hz'⟩ : ∃ z, z = y * dv := ⟨_, rfl⟩
        rw [← hz'] at hbm HS
        have hw1 : IntKind.i64.wrap (gi * xv) = y := by rw [← hy]; exact IntWalk.i64_in _ (by omega)
        have hw2 : IntKind.i64.wrap (y * dv) = z := by rw [← hz']; exact IntWalk.i64_in _ (by omega)
        have hw3 : IntKind.i64.wrap (s + z) = s + z := IntWalk.i64_in _ (by omega)
        have kd : Kp wr wr.drew := (Kp.rfl' wr).drewN 1
        have W1 := Lib.hid (WO.out k wr.drew hlt (HA.out.keep (hkp.trans kd)))
        have SK := Lib.hid (fun (w' : World) (h : Kp wr w') => (show w'.cell? ad = some (.slice (some ad1) n d0) ∧ w'.cell? (ad1.add k) = some (.int .i64 xv) ∧ Kp wr w' from
          ⟨(h.cell (p := ad) hl0).trans x1, (h.cell (p := ad1.add k) (by rw [block_add]; exact hl1)).trans x2, h⟩))
        clear hbs hbm hkp hz hs2 hy hz' hsg
        go_wp2_with fail
        go_region_held3 (fun w' => w'.cell? ad = some (.slice (some ad1) n d0) ∧ w'.cell? (ad1.add k) = some (.int .i64 xv) ∧ Kp wr w')
          (first
          | exact SK.out _ (Kp.rfl' _)
          | exact SK.out _ kd
          | exact SK.out _ (kd.trans k1)
          | exact SK.out _ ((kd.trans k1).trans k2))
          ((first
          | (go_at_call 17; (with_reducible refine (W1.out).mono ?_); rintro e w1 ⟨A1, c1, rfl, l1, k1⟩)
          | (go_at_call 8; (with_reducible refine (HI.out A1 c1 _ l1).mono ?_); rintro e w2 ⟨rfl, k2⟩)))
        have HK2 := Lib.hid (HK.out.trans ((kd.trans k1).trans k2))
        clear k1 k2 l1 x1 x2
        go_wp2_with fail
        go_roundw
        case rel => exact ⟨k + 1, by omega, by go_num, by rw [HSG.out], by rw [HS.out], HK2.out⟩
        case measure => simp [intOf]; omega
    · obtain rfl : k = n := by omega
      clear hkp
      go_wp2_with fail
      go_ret
      exact ⟨rfl, HK.out⟩

theorem rDetH_any : ∀ (n : Nat) (hn : n ≤ 6) (A : Option Addr) (f : Nat → Nat → Int) (d : Nat) (w : World) (hf : ∀ i j, i < n → j < n → -100 ≤ f i j ∧ f i j ≤ 100) (ha : LiesM w A (Mx.tab n n f)),
    Calls Tryd.prog 8 #[.slice A n d] w fun e w' => e = .returned (.int .i64 (Zx.dt n f)) ∧ Kp w w'
  | 0, _, A, f, d, w, hf, ha => by
    have e1 : Zx.dt 0 f = 1 := rfl
    rw [e1]
    clear ha hf
    go_enter Tryd.func8, Tryd.ntmps8
    go_wp2
    go_ret
    exact ⟨rfl, Kp.rfl' _⟩
  | p + 1, hp, A, f, d, w, hf, ha => rDetH_step A f p (p + 1) d w ha rfl (by omega) hf (fun A f d w hf h => rDetH_any p (by omega) A f d w hf h)
end Go.Proofs.YtkebjmapdcbnaaaDoor

/- Contracts of plain.Told and rankmeresame.Error: of nil and of an Errno. Go's own text of errors.As is walked, by closed facts on the model's entries for internal/reflectlite at this translation's numbers. The one premise: the variable errors.errorType holds its type. -/
namespace Go.Proofs.YtkebjmapdcbnaaaDoor.Told
open Go.RowKit Go.Extern.Stop Go.Stop Go.Extern
set_option linter.unusedVariables false

theorem valueOfP (t : Addr) (w : World) : (ReflectliteValue.unpack (.iface 44 (.pointer (some t)))).run Tryd.prog w
    = .ok (.agg #[.pointer (some ⟨1, 44, none⟩), .pointer (some ⟨w.heap.size, 0, none⟩), .int .u64 150]) (w.alloc (.cells #[.pointer (some t)] 44)) := by kernel_rfl
theorem typeP (a : Addr) (w : World) : (ReflectliteValue.methodAny (ReflectliteValue.valueError "reflectlite.Value.Type" 0) (fun t _ _ _ => ReflectliteType.toType t) #[.agg #[.pointer (some ⟨1, 44, none⟩), .pointer (some a), .int .u64 150]]).run Tryd.prog w
    = .ok (.iface 65 (.agg #[.pointer (some ⟨1, 44, none⟩)])) w := by kernel_rfl
theorem methodKind (h : Value) (w : World) : (Go.method 208 65 (.agg #[h]) "Kind").run Tryd.prog w = .ok (49, h) w := by kernel_rfl
theorem kindP (w : World) : ((ReflectliteType.abiMethod fun t => (fun a : Nat => Value.int IntKind.u8 (a : Int)) <$> Rtype.kind t) #[.pointer (some ⟨1, 44, none⟩)]).run Tryd.prog w = .ok (.int .u8 22) w := by kernel_rfl
theorem kindE (w : World) : ((ReflectliteType.abiMethod fun t => (fun a : Nat => Value.int IntKind.u8 (a : Int)) <$> Rtype.kind t) #[.pointer (some ⟨1, 34, none⟩)]).run Tryd.prog w = .ok (.int .u8 2) w := by kernel_rfl
theorem rlm (z : Sem Value) (f : TypeId → Addr → Nat → Nat → Sem Value) (v : Value) :
    ReflectliteValue.method z f #[v] = (do match ← ReflectliteValue.parts v with | none => z | some (t, a, fl) => f t a fl (fl % 32)) := rfl
theorem partsP (a : Addr) (w : World) : (ReflectliteValue.parts (.agg #[.pointer (some ⟨1, 44, none⟩), .pointer (some a), .int .u64 150])).run Tryd.prog w = .ok (some (44, a, 150)) w := by kernel_rfl
theorem isNilP (a p : Addr) (W : World) (ha : W.cell? a = some (.pointer (some p))) :
    (ReflectliteValue.method (ReflectliteValue.valueError "reflectlite.Value.IsNil" 0) ReflectliteValue.isNil #[.agg #[.pointer (some ⟨1, 44, none⟩), .pointer (some a), .int .u64 150]]).run Tryd.prog W = .ok (.bool false) W := by
  rw [rlm]
  simp only [Sem.run_bind, partsP, Result.andThen]
  simp [ReflectliteValue.isNil, loadVar, isAgg, underlying, Tryd.underlying44, ha, Result.andThen]
theorem methodElem (h : Value) (w : World) : (Go.method 208 65 (.agg #[h]) "Elem").run Tryd.prog w = .ok (59, .agg #[h]) w := by kernel_rfl
theorem methodImplements (h : Value) (w : World) : (Go.method 208 65 (.agg #[h]) "Implements").run Tryd.prog w = .ok (60, .agg #[h]) w := by kernel_rfl
theorem methodAssignableTo (h : Value) (w : World) : (Go.method 208 65 (.agg #[h]) "AssignableTo").run Tryd.prog w = .ok (57, .agg #[h]) w := by kernel_rfl
theorem elemP (w : World) : (ReflectliteType.method ReflectliteType.elem #[.agg #[.pointer (some ⟨1, 44, none⟩)]]).run Tryd.prog w = .ok (.iface 65 (.agg #[.pointer (some ⟨1, 34, none⟩)])) w := by kernel_rfl
theorem implementsE (w : World) : (ReflectliteType.relation "Implements" ReflectliteType.implements_ #[.agg #[.pointer (some ⟨1, 34, none⟩)], .iface 65 (.agg #[.pointer (some ⟨1, 26, none⟩)])]).run Tryd.prog w = .ok (.bool true) w := by kernel_rfl
theorem typeOfE (v : Value) (w : World) : (ReflectliteType.typeOf #[.iface 34 v]).run Tryd.prog w = .ok (.iface 65 (.agg #[.pointer (some ⟨1, 34, none⟩)])) w := by kernel_rfl
theorem assignableE (w : World) : (ReflectliteType.relation "AssignableTo" ReflectliteType.assignableTo #[.agg #[.pointer (some ⟨1, 34, none⟩)], .iface 65 (.agg #[.pointer (some ⟨1, 34, none⟩)])]).run Tryd.prog w = .ok (.bool true) w := by kernel_rfl
theorem valueOfE (n : Int) (w : World) : (ReflectliteValue.unpack (.iface 34 (.int .i64 n))).run Tryd.prog w
    = .ok (.agg #[.pointer (some ⟨1, 34, none⟩), .pointer (some ⟨w.heap.size, 0, none⟩), .int .u64 130]) (w.alloc (.cells #[.int .i64 n] 34)) := by kernel_rfl
theorem elemOfP (w : World) : (Rtype.elem? 44).run Tryd.prog w = .ok (some 34) w := by kernel_rfl
theorem mkE (p : Addr) (w : World) : (ReflectliteValue.mk 34 p ReflectliteValue.flagAddr).run Tryd.prog w = .ok (.agg #[.pointer (some ⟨1, 34, none⟩), .pointer (some p), .int .u64 386]) w := by kernel_rfl
theorem elemVP (a p : Addr) (W : World) (ha : W.cell? a = some (.pointer (some p))) :
    (ReflectliteValue.method (ReflectliteValue.valueError "reflectlite.Value.Elem" 0) ReflectliteValue.elem #[.agg #[.pointer (some ⟨1, 44, none⟩), .pointer (some a), .int .u64 150]]).run Tryd.prog W
      = .ok (.agg #[.pointer (some ⟨1, 34, none⟩), .pointer (some p), .int .u64 386]) W := by
  rw [rlm]
  simp only [Sem.run_bind, partsP, Result.andThen]
  simp [ReflectliteValue.elem, loadVar, isAgg, underlying, Tryd.underlying44, ha, Result.andThen, elemOfP, mkE]
theorem rls (v x : Value) : ReflectliteValue.set #[v, x] = (do
    let (some (dst, a, fl), some (src, b, _)) := (← ReflectliteValue.parts v, ← ReflectliteValue.parts x)
      | unsupported (.noEntry "extern/(internal/reflectlite.Value).Set.zeroValue")
    if fl / ReflectliteValue.flagAddr % 2 == 0 then unsupported (.noEntry "extern/(internal/reflectlite.Value).Set.unaddressable")
    let val ← loadVar src b
    if ← Rtype.directlyAssignable dst src then storeVar dst a val
    else if ← Rtype.implements dst src then
      if (← Rtype.kind src) == 20 then
        match val with
        | .nilIface => unsupported (.noEntry "extern/reflectlite: a nil value of one interface type handed on as a value of another")
        | _ => storeVar dst a val
      else storeVar dst a (.iface src val)
    else panicString ("reflectlite.Set: value of type " ++ (← Rtype.spelt src) ++ " is not assignable to type " ++ (← Rtype.spelt dst))
    pure (.tuple #[])) := rfl
theorem partsEa (a : Addr) (w : World) : (ReflectliteValue.parts (.agg #[.pointer (some ⟨1, 34, none⟩), .pointer (some a), .int .u64 386])).run Tryd.prog w = .ok (some (34, a, 386)) w := by kernel_rfl
theorem partsE (a : Addr) (w : World) : (ReflectliteValue.parts (.agg #[.pointer (some ⟨1, 34, none⟩), .pointer (some a), .int .u64 130])).run Tryd.prog w = .ok (some (34, a, 130)) w := by kernel_rfl
theorem directE (w : World) : (Rtype.directlyAssignable 34 34).run Tryd.prog w = .ok true w := by kernel_rfl
theorem setE (ta b : Addr) (n : Int) (old : Value) (W : World) (hb : W.cell? b = some (.int .i64 n)) (ht : W.cell? ta = some old) (hf : W.frozen? ta = false) :
    (ReflectliteValue.set #[.agg #[.pointer (some ⟨1, 34, none⟩), .pointer (some ta), .int .u64 386], .agg #[.pointer (some ⟨1, 34, none⟩), .pointer (some b), .int .u64 130]]).run Tryd.prog W
      = .ok (.tuple #[]) (W.setCell ta (.int .i64 n)) := by
  rw [rls]
  simp only [Sem.run_bind, partsEa, partsE, Result.andThen]
  simp [ReflectliteValue.flagAddr, loadVar, isAgg, underlying, Tryd.underlying34, hb, Result.andThen, directE, storeVar, Value.cells, storeCells, Addr.add]
  rw [run_store Tryd.prog W ta _ _ (by rfl)]
  simp [ht, hf]

/-- The variable errors.errorType holds its type. -/
abbrev Laid (w : World) : Prop := w.cell? ⟨0, 0, none⟩ = some (.iface 65 (.agg #[.pointer (some ⟨1, 26, none⟩)]))

theorem laid_lt {w : World} (h : Laid w) : 0 < w.heap.size := by
  have h1 : w.cell? ⟨0, 0, none⟩ = some (.iface 65 (.agg #[.pointer (some ⟨1, 26, none⟩)])) := h
  rcases Nat.lt_or_ge 0 w.heap.size with h' | h'
  · exact h'
  · have e : w.heap[0]? = none := Array.getElem?_eq_none h'
    simp [World.cell?, e] at h1

set_option maxHeartbeats 4000000 in
theorem as_hit (n : Int) (t : Addr) (old : Value) (w : World) (hg : Laid w) (ht0 : w.cell? t = some old) (hf0 : w.frozen? t = false) :
    Calls Tryd.prog 21 #[.iface 34 (.int .i64 n), .iface 44 (.pointer (some t))] w fun ev w' => ev = .returned (.bool true) ∧ w' = ((((w.alloc (.cells #[.pointer (some t)] 44)).alloc (.cells #[.pointer (some ⟨1, 44, none⟩), .pointer (some ⟨w.heap.size, 0, none⟩), .int .u64 150] 52)).alloc (.cells #[.pointer (some ⟨1, 44, none⟩), .pointer (some ⟨w.heap.size, 0, none⟩), .int .u64 150] 52)).alloc (.cells #[.int .i64 n] 34)).setCell t (.int .i64 n) := by
  have h6 := @run_callFunc_extern Tryd.prog 26 _ (fun args => ReflectliteValue.unpack (args.getD 0 (.tuple #[]))) Tryd.func26 (by kernel_rfl) (by kernel_rfl) (by kernel_rfl) (by kernel_rfl)
  have h7 := @run_callFunc_extern Tryd.prog 27 _ (ReflectliteValue.methodAny (ReflectliteValue.valueError "reflectlite.Value.Type" 0) (fun t _ _ _ => ReflectliteType.toType t)) Tryd.func27 (by kernel_rfl) (by kernel_rfl) (by kernel_rfl) (by kernel_rfl)
  have h8 := @run_callFunc_extern Tryd.prog 28 _ (ReflectliteValue.method (ReflectliteValue.valueError "reflectlite.Value.IsNil" 0) ReflectliteValue.isNil) Tryd.func28 (by kernel_rfl) (by kernel_rfl) (by kernel_rfl) (by kernel_rfl)
  have h27 := @run_callFunc_extern Tryd.prog 49 _ (ReflectliteType.abiMethod fun t => do pure (.int .u8 (← Rtype.kind t))) Tryd.func49 (by kernel_rfl) (by kernel_rfl) (by kernel_rfl) (by kernel_rfl)
  have h37 := @run_callFunc_extern Tryd.prog 59 _ (ReflectliteType.method ReflectliteType.elem) Tryd.func59 (by kernel_rfl) (by kernel_rfl) (by kernel_rfl) (by kernel_rfl)
  have h38 := @run_callFunc_extern Tryd.prog 60 _ (ReflectliteType.relation "Implements" ReflectliteType.implements_) Tryd.func60 (by kernel_rfl) (by kernel_rfl) (by kernel_rfl) (by kernel_rfl)
  have h10 := @run_callFunc_extern Tryd.prog 32 _ ReflectliteType.typeOf Tryd.func32 (by kernel_rfl) (by kernel_rfl) (by kernel_rfl) (by kernel_rfl)
  have h35 := @run_callFunc_extern Tryd.prog 57 _ (ReflectliteType.relation "AssignableTo" ReflectliteType.assignableTo) Tryd.func57 (by kernel_rfl) (by kernel_rfl) (by kernel_rfl) (by kernel_rfl)
  have h11 := @run_callFunc_extern Tryd.prog 33 _ (ReflectliteValue.method (ReflectliteValue.valueError "reflectlite.Value.Elem" 0) ReflectliteValue.elem) Tryd.func33 (by kernel_rfl) (by kernel_rfl) (by kernel_rfl) (by kernel_rfl)
  have h12 := @run_callFunc_extern Tryd.prog 34 _ ReflectliteValue.set Tryd.func34 (by kernel_rfl) (by kernel_rfl) (by kernel_rfl) (by kernel_rfl)
  have tO := typeOfE
  have mA := methodAssignableTo
  have a25 := assignableE
  have v25 := valueOfE
  have f6 := valueOfP
  have f7 := typeP
  have mK := methodKind
  have mE := methodElem
  have mI := methodImplements
  have k27 := kindP
  have k25 := kindE
  have e27 := elemP
  have i25 := implementsE
  have n8 := isNilP ⟨w.heap.size, 0, none⟩ t ((w.alloc (.cells #[.pointer (some t)] 44)).alloc (.cells #[.pointer (some ⟨1, 44, none⟩), .pointer (some ⟨w.heap.size, 0, none⟩), .int .u64 150] 52)) (by simp)
  have hlt : 0 < w.heap.size := laid_lt hg
  have hg2 : ((w.alloc (.cells #[.pointer (some t)] 44)).alloc (.cells #[.pointer (some ⟨1, 44, none⟩), .pointer (some ⟨w.heap.size, 0, none⟩), .int .u64 150] 52)).cell? ⟨0, 0, none⟩ = some (.iface 65 (.agg #[.pointer (some ⟨1, 26, none⟩)])) := by
    rw [World.cell?_alloc_lt _ _ ⟨0, 0, none⟩ (by show 0 < (w.heap.push _).size; rw [Array.size_push]; omega), World.cell?_alloc_lt _ _ ⟨0, 0, none⟩ hlt]; exact hg
  have htl : t.block < w.heap.size := by
    rcases Nat.lt_or_ge t.block w.heap.size with h | h
    · exact h
    · simp [World.cell?, Array.getElem?_eq_none h] at ht0
  have el := elemVP ⟨w.heap.size, 0, none⟩ t (((w.alloc (.cells #[.pointer (some t)] 44)).alloc (.cells #[.pointer (some ⟨1, 44, none⟩), .pointer (some ⟨w.heap.size, 0, none⟩), .int .u64 150] 52)).alloc (.cells #[.pointer (some ⟨1, 44, none⟩), .pointer (some ⟨w.heap.size, 0, none⟩), .int .u64 150] 52)) (by rw [World.cell?_alloc_lt _ _ ⟨w.heap.size, 0, none⟩ (by simp; omega)]; simp)
  have st := setE t ⟨w.heap.size + 1 + 1 + 1, 0, none⟩ n old ((((w.alloc (.cells #[.pointer (some t)] 44)).alloc (.cells #[.pointer (some ⟨1, 44, none⟩), .pointer (some ⟨w.heap.size, 0, none⟩), .int .u64 150] 52)).alloc (.cells #[.pointer (some ⟨1, 44, none⟩), .pointer (some ⟨w.heap.size, 0, none⟩), .int .u64 150] 52)).alloc (.cells #[.int .i64 n] 34))
    (by rw [World.cell?_alloc_at _ _ _ _ (by simp)]; rfl)
    (by rw [World.cell?_alloc_lt _ _ t (by simp; omega), World.cell?_alloc_lt _ _ t (by simp; omega), World.cell?_alloc_lt _ _ t (by simp; omega), World.cell?_alloc_lt _ _ t htl]; exact ht0)
    (by rw [World.frozen?_alloc_old _ _ t (by simp; omega), World.frozen?_alloc_old _ _ t (by simp; omega), World.frozen?_alloc_old _ _ t (by simp; omega), World.frozen?_alloc_old _ _ t (Nat.ne_of_lt htl)]; exact hf0)
  go_enter Tryd.func21, Tryd.ntmps21
  go_wp2
  refine wp_loop_rounds 1 ?_
  rw [rounds_succ]
  go_wp2
  go_ret
  exact ⟨rfl, rfl⟩

end Go.Proofs.YtkebjmapdcbnaaaDoor.Told

/- Contracts of plain.Told and rankmeresame.Error: of nil and of an Errno; nothing that was there turns. The one premise: the variable errors.errorType holds its type. -/
namespace Go.Proofs.YtkebjmapdcbnaaaDoor
open Go.RowKit Go.Proofs.YtkebjmapdcbnaaaDoor.Told
set_option linter.unusedVariables false

theorem laid_kp {w w' : World} (h : Laid w) (hg : Kp w w') : Laid w' :=
  (hg.cell (p := ⟨0, 0, none⟩) (laid_lt h)).trans h

theorem toldK_nil (w : World) :
    Calls Tryd.prog 12 #[.nilIface] w fun e w' => e = .returned (.int .i64 0) ∧ w = w' := by
  go_enter Tryd.func12, Tryd.ntmps12
  go_wp2
  go_ret
  exact ⟨rfl, rfl⟩

set_option maxHeartbeats 4000000 in
theorem toldK_hit (n : Int) (w : World) (hg : Laid w) :
    Calls Tryd.prog 12 #[.iface 34 (.int .i64 n)] w fun e w' => e = .returned (.int .i64 n) ∧ Kp w w' := by
  have hgA := Lib.hid (laid_kp hg ((Kp.rfl' w).new (.cells #[.int .i64 0] 34)))
  clear hg
  go_enter Tryd.func12, Tryd.ntmps12
  go_wp2_with (go_at_call 21; refine (as_hit n _ (.int .i64 0) _ hgA.out (by simp) (by simp)).mono ?_; rintro e w' ⟨rfl, rfl⟩)
  go_ret
  exact ⟨rfl, ((((((Kp.rfl' w).new _).new _).new _).new _).new _)⟩

/-- rankmeresame.Error on no error. -/
theorem errorK_nil (c : Int) (w : World) (b : Bool) (hb : ((0 : Int) == c) = b) :
    Calls Tryd.prog 5 #[.nilIface, .int .i64 c] w fun e w' => e = .returned (.bool b) ∧ Kp w w' := by
  have H := Lib.hid hb
  clear hb
  go_enter Tryd.func5, Tryd.ntmps5
  go_wp2_with (go_at_call 12; refine (toldK_nil _).mono ?_; rintro e w' ⟨rfl, rfl⟩)
  go_ret
  exact ⟨congrArg (fun b => Ending.returned (.bool b)) H.out, Kp.rfl' _⟩

/-- rankmeresame.Error on an Errno. -/
theorem errorK_hit (n c : Int) (w : World) (hg : Laid w) (hn : 0 ≤ n ∧ n ≤ 100) (b : Bool) (hb : (n == c) = b) :
    Calls Tryd.prog 5 #[.iface 34 (.int .i64 n), .int .i64 c] w fun e w' => e = .returned (.bool b) ∧ Kp w w' := by
  have H := Lib.hid hb
  have HG := Lib.hid hg
  clear hb hg
  go_enter Tryd.func5, Tryd.ntmps5
  go_wp2_with (go_at_call 12; refine (toldK_hit _ _ HG.out).mono ?_; rintro e w' ⟨rfl, hw⟩)
  go_ret
  exact ⟨congrArg (fun b => Ending.returned (.bool b)) H.out, hw⟩

end Go.Proofs.YtkebjmapdcbnaaaDoor

/- rankmeresame.Error at the errors by number. -/
namespace Go.Proofs.YtkebjmapdcbnaaaDoor
open Go.ChangeShapes Go.WideShapes Go.ChangeAt Go.RowKit
set_option linter.unusedVariables false

/-- Error says yes to the error that is told. -/
theorem error_says (c : Nat) (w : World) (hl : Told.Laid w) (hc : c ≤ 100) :
    Calls Tryd.prog 5 #[errOf c, .int .i64 (c : Int)] w fun e w' => e = .returned (.bool true) ∧ Kp w w' := by
  by_cases h : c = 0
  · subst h; exact errorK_nil 0 w true rfl
  · rw [errOf_ne c h]
    exact errorK_hit c c w hl (by omega) true (by simp)

end Go.Proofs.YtkebjmapdcbnaaaDoor

/- Comparing rows and matrices, small matrices just laid down: for all packages. -/
namespace Go.Proofs.YtkebjmapdcbnaaaDoor
open Go.ChangeShapes Go.WideShapes Go.ChangeAt Go.RowKit
set_option linter.unusedVariables false

theorem rows_same (a b : List (List Int)) (h : a.length = b.length) (h2 : ∀ k, k < a.length → a.getD k [] = b.getD k []) : a = b := by
  refine List.ext_getElem h fun k h3 h4 => ?_
  have := h2 k h3
  rwa [List.getD_eq_getElem?_getD, List.getD_eq_getElem?_getD, List.getElem?_eq_getElem h3, List.getElem?_eq_getElem h4] at this

/-- No row is longer than a slice may be. -/
def Modest (m : List (List Int)) : Prop := m.length ≤ 1000000 ∧ ∀ k, k < m.length → (m.getD k []).length ≤ 1000000
theorem modest_tab {r c : Nat} (g : Nat → Nat → Int) (hr : r ≤ 1000000) (hc : c ≤ 1000000) : Modest (Mx.tab r c g) :=
  ⟨by rw [Mx.len_tab]; exact hr, fun k hk => by rw [Mx.len_tab] at hk; rw [Mx.tab_len _ _ _ _ hk]; exact hc⟩
theorem modest_nil : Modest [] := ⟨by decide, fun k hk => absurd hk (by simp)⟩


theorem cell_just (w : World) (cs : Array Value) (e : TypeId) (g k : Nat) (h : g = w.heap.size) : (w.alloc (.cells cs e)).cell? ⟨g, k, none⟩ = cs[k]? := by
  subst h
  exact cell_of_row _ _ k _ e (0, 0) (heap_alloc_new w _)
/-- What came in: the rows up to the capacity, each with its numbers up to its own; its rows are the first of them. -/
theorem liesM_open {w : World} {a : Addr} {len cap : Nat} {A : Nat → Option Addr} {L C : Nat → Nat} {Z : Nat → List Int} (hl : len ≤ cap)
    (h : ∀ r, r < cap → w.cell? (a.add r) = some (.slice (A r) (L r) (C r)) ∧ L r ≤ C r ∧ C r ≤ maxLen ∧ (Z r).length = C r ∧ (∀ n ∈ Z r, (Lit.int .i64 n).wf = true) ∧ (A r = none → C r = 0) ∧
      ∀ a', A r = some a' → 0 ≤ a'.block ∧ ∀ c, c < C r → w.cell? (a'.add c) = some (.int .i64 ((Z r).getD c 0))) :
    ((List.range len).map fun r => (Z r).take (L r)).length = len ∧ LiesM w (some a) ((List.range len).map fun r => (Z r).take (L r)) := by
  refine ⟨by simp, fun k hk => ?_⟩
  have hk' : k < len := by simpa using hk
  obtain ⟨h1, h2, _, h4, _, h6, h7⟩ := h k (by omega)
  have e : ((List.range len).map fun r => (Z r).take (L r)).getD k [] = (Z k).take (L k) := by simp [hk']
  have el : ((Z k).take (L k)).length = L k := by rw [List.length_take]; omega
  rw [e, el]
  refine ⟨a, A k, C k, rfl, ?_, h1, h2, ?_⟩
  · have := cell_lt h1; rwa [block_add] at this
  · cases hA : A k with
    | none =>
      intro j hj
      have := h6 hA
      rw [el] at hj
      omega
    | some a' => exact (lies_take (w := w) (x := a') h2 h4 (fun i hi => (h7 a' hA).2 i (by omega))).2
/-- Two rows of two, and the heads of both, just laid down. -/
def laid22 (w : World) (x : Nat → Nat → Int) : World :=
  ((w.alloc (.cells #[.int .i64 (x 0 0), .int .i64 (x 0 1)] 3)).alloc (.cells #[.int .i64 (x 1 0), .int .i64 (x 1 1)] 3)).alloc (.cells #[.slice (some ⟨w.heap.size, 0, none⟩) 2 2, .slice (some ⟨w.heap.size + 1, 0, none⟩) 2 2] 33)
theorem laid22_kp (w : World) (x : Nat → Nat → Int) : Kp w (laid22 w x) := (((Kp.rfl' w).new _).new _).new _
theorem laid22_size (w : World) (x : Nat → Nat → Int) : (laid22 w x).heap.size = w.heap.size + 3 := by simp [laid22]
theorem laid22_lies (w : World) (x : Nat → Nat → Int) : LiesM (laid22 w x) (some ⟨w.heap.size + 2, 0, none⟩) (Mx.tab 2 2 x) := by
  have h0 : Lies (w.alloc (.cells #[.int .i64 (x 0 0), .int .i64 (x 0 1)] 3)) (some ⟨w.heap.size, 0, none⟩) (Mx.row 2 (x 0)) := lies_new' w _ [x 0 0, x 0 1] _ rfl
  have h1 : Lies ((w.alloc (.cells #[.int .i64 (x 0 0), .int .i64 (x 0 1)] 3)).alloc (.cells #[.int .i64 (x 1 0), .int .i64 (x 1 1)] 3)) (some ⟨w.heap.size + 1, 0, none⟩) (Mx.row 2 (x 1)) :=
    lies_new' (w.alloc _) _ [x 1 0, x 1 1] _ (by simp)
  have k2 := ((Kp.rfl' (w.alloc (.cells #[.int .i64 (x 0 0), .int .i64 (x 0 1)] 3))).new (.cells #[.int .i64 (x 1 0), .int .i64 (x 1 1)] 3)).new (.cells #[.slice (some ⟨w.heap.size, 0, none⟩) 2 2, .slice (some ⟨w.heap.size + 1, 0, none⟩) 2 2] 33)
  have k3 := (Kp.rfl' ((w.alloc (.cells #[.int .i64 (x 0 0), .int .i64 (x 0 1)] 3)).alloc (.cells #[.int .i64 (x 1 0), .int .i64 (x 1 1)] 3))).new (.cells #[.slice (some ⟨w.heap.size, 0, none⟩) 2 2, .slice (some ⟨w.heap.size + 1, 0, none⟩) 2 2] 33)
  have hs : w.heap.size + 2 < (laid22 w x).heap.size := by rw [laid22_size]; omega
  intro k hk
  rw [Mx.len_tab] at hk
  match k, hk with
  | 0, _ => exact ⟨_, some ⟨w.heap.size, 0, none⟩, 2, rfl, hs, by rw [add_at]; unfold laid22; rw [cell_just _ _ _ _ _ (by simp)]; simp [Mx.tab, Mx.row], by simp [Mx.tab, Mx.row], h0.keep k2⟩
  | 1, _ => exact ⟨_, some ⟨w.heap.size + 1, 0, none⟩, 2, rfl, hs, by rw [add_at]; unfold laid22; rw [cell_just _ _ _ _ _ (by simp)]; simp [Mx.tab, Mx.row], by simp [Mx.tab, Mx.row], h1.keep k3⟩

def n22 (a b c d : Int) : Nat → Nat → Int := fun i j => if i = 0 then (if j = 0 then a else b) else (if j = 0 then c else d)
/-- The same with the numbers and the block as they stand in a walk. -/
abbrev lit22 (w : World) (g : Nat) (a b c d : Int) : World :=
  ((w.alloc (.cells #[.int .i64 a, .int .i64 b] 3)).alloc (.cells #[.int .i64 c, .int .i64 d] 3)).alloc (.cells #[.slice (some ⟨g, 0, none⟩) 2 2, .slice (some ⟨g + 1, 0, none⟩) 2 2] 33)
theorem lit22_lies (w : World) (g : Nat) (a b c d : Int) (h : g = w.heap.size) : LiesM (lit22 w g a b c d) (some ⟨g + 1 + 1, 0, none⟩) (Mx.tab 2 2 (n22 a b c d)) := by
  subst h
  exact laid22_lies w (n22 a b c d)
theorem lit22_kp (w : World) (g : Nat) (a b c d : Int) : Kp w (lit22 w g a b c d) := (((Kp.rfl' w).new _).new _).new _
theorem lit22_size (w : World) (g : Nat) (a b c d : Int) : (lit22 w g a b c d).heap.size = w.heap.size + 1 + 1 + 1 := by simp [lit22]

end Go.Proofs.YtkebjmapdcbnaaaDoor

/- The walk of PfaffSays; contract of package pfaff's Det. -/
namespace Go.Proofs.YtkebjmapdcbnaaaDoor
open Go.ChangeShapes Go.WideShapes Go.ChangeAt Go.RowKit
set_option linter.unusedVariables false

set_option maxRecDepth 100000 in
set_option maxHeartbeats 800000 in
theorem PDet_bad (A : Option Addr) (m : List (List Int)) (n d : Nat) (w : World) (ha : LiesM w A m) (hn : m.length = n) (hz : pfcd m ≠ 0) :
    Calls Tryd.prog 10 #[.slice A n d] w fun e w' => e = .returned (.tuple #[.int .i64 0, .iface 34 (.int .i64 ((pfcd m : Nat) : Int))]) ∧ Kp w w' := by
  have OF := Lib.hid (POf_bad A m n d w ha hn hz)
  generalize pfcd m = z at *
  clear ha hn hz
  go_enter Tryd.func10, Tryd.ntmps10
  go_wp2_with fail
  refine (OF.out).mono ?_; rintro e w1 ⟨rfl, k1⟩
  have K1 := Lib.hid k1
  clear k1
  go_wp2_with fail
  exact bodyPost_ret (v := .tuple #[.int .i64 0, .iface 34 (.int .i64 (z : Int))]) (by simp [results, Tryd.results10, go_sem]) rfl ⟨rfl, K1.out⟩
set_option maxRecDepth 100000 in
set_option maxHeartbeats 800000 in
theorem PDet_ok (A : Option Addr) (m : List (List Int)) (f : Nat → Nat → Int) (n d : Nat) (w : World) (s : Pz n f m) (ha : LiesM w A m) :
    Calls Tryd.prog 10 #[.slice A n d] w fun e w' => e = .returned (.tuple #[.int .i64 (Zx.dt n f), .nilIface]) ∧ Kp w w' := by
  have OF := Lib.hid (POf_ok A m f n d w s ha)
  have SQ := Lib.hid (Zx.pf_sq s.n6 s.skw)
  have bd := s.bound
  rw [← SQ.out]
  generalize Zx.pf n f = v at *
  have q1 : v * v ≤ 10935 * 10935 := by
    have h1 : v.natAbs * v.natAbs ≤ 10935 * 10935 := Nat.mul_le_mul bd bd
    have h2 : (v.natAbs : Int) * v.natAbs = v * v := Int.natAbs_mul_self' v
    have h3 : ((v.natAbs * v.natAbs : Nat) : Int) ≤ ((10935 * 10935 : Nat) : Int) := by exact_mod_cast h1
    rw [← h2]; simpa using h3
  have q0 : 0 ≤ v * v := by
    have h2 : (v.natAbs : Int) * v.natAbs = v * v := Int.natAbs_mul_self' v
    rw [← h2]; exact Int.mul_nonneg (by omega) (by omega)
  have hw : IntKind.i64.wrap (v * v) = v * v := IntWalk.i64_in _ (by omega)
  clear ha s q1 q0 bd SQ
  go_enter Tryd.func10, Tryd.ntmps10
  go_wp2_with fail
  refine (OF.out).mono ?_; rintro e w1 ⟨rfl, k1⟩
  have K1 := Lib.hid k1
  clear k1
  go_wp2_with fail
  exact bodyPost_ret (v := .tuple #[.int .i64 (v * v), .nilIface]) (by simp [results, Tryd.results10, go_sem]) rfl ⟨rfl, K1.out⟩

set_option maxRecDepth 100000 in
set_option maxHeartbeats 3200000 in
theorem walk_PfaffSays (A : Option Addr) (m : List (List Int)) (d : Nat) (w : World) (hl : Told.Laid w) (ha : LiesM w A m) :
    Calls Tryd.prog 3 #[.slice A m.length d] w fun e w' => e = .returned (.bool true) ∧ Kp w w' := by
  obtain ⟨n, hn⟩ : ∃ n, n = m.length := ⟨_, rfl⟩
  rw [← hn]
  have SW := Lib.hid (fun w' (k : Kp w w') => rSkew_any A m n d w' (ha.keep k) hn.symm)
  have CK := Lib.hid (fun w' (k : Kp w w') => PfChk_any A m n d w' (ha.keep k) hn.symm)
  have ERZ := Lib.hid (fun (wx : World) (hx : Kp w wx) => error_says (pfcd m) wx (laid_kp hl hx) (Nat.le_trans (pfcd_le m) (by decide)))
  rcases pz_or m hn.symm with ⟨f, s⟩ | hz
  · have hm := ha
    rw [s.eq] at hm
    have OF := Lib.hid (fun w' (k : Kp w w') => POf_ok A m f n d w' s (ha.keep k))
    have DE := Lib.hid (fun w' (k : Kp w w') => PDet_ok A m f n d w' s (ha.keep k))
    have PF := Lib.hid (fun w' (k : Kp w w') => rPfaff_any s.n6 s.ab A d (n / 2 + 1) (by have := s.n6; omega) [] 0 none 0 w' rfl (Zx.pchk_all n s.n0 s.n6) (hm.keep k) (fun i hi => by simp [nz] at hi))
    rw [Zx.pfo_pf s.n0 s.n6 f] at PF
    have DT := Lib.hid (fun w' (k : Kp w w') => rDetH_any n s.n6 A f d w' (fun i j hi hj => by have := s.ab i j hi hj; omega) (hm.keep k))
    rw [s.code] at SW CK ERZ
    rw [errOf_zero] at CK ERZ
    generalize Zx.pf n f = v at *
    generalize Zx.dt n f = v2 at *
    have e1 : (v == v) = true := by simp
    have e2 : (v2 == v2) = true := by simp
    clear hl ha hm s hn
    go_enter Tryd.func3, Tryd.ntmps3
    go_wp2_with fail
    refine (SW.out w (Kp.rfl' w)).mono ?_; rintro e w1 ⟨rfl, k1⟩
    have K1 := Lib.hid k1; clear k1
    go_wp2_with fail
    refine (CK.out w1 K1.out).mono ?_; rintro e w2 ⟨rfl, rfl⟩
    go_wp2_with fail
    refine (ERZ.out w1 K1.out).mono ?_; rintro e w3 ⟨rfl, k3⟩
    have K3 := Lib.hid (K1.out.trans k3); clear k3
    go_wp2_with fail
    refine (PF.out w3 K3.out).mono ?_; rintro e w4 ⟨rfl, k4⟩
    have K4 := Lib.hid (K3.out.trans k4); clear k4
    go_wp2_with fail
    refine (DT.out w4 K4.out).mono ?_; rintro e w5 ⟨rfl, k5⟩
    have K5 := Lib.hid (K4.out.trans k5); clear k5
    go_wp2_with fail
    refine (OF.out w5 K5.out).mono ?_; rintro e w6 ⟨rfl, k6⟩
    have K6 := Lib.hid (K5.out.trans k6); clear k6
    go_wp2_with fail
    refine (ERZ.out w6 K6.out).mono ?_; rintro e w7 ⟨rfl, k7⟩
    have K7 := Lib.hid (K6.out.trans k7); clear k7
    go_wp2_with fail
    refine (DE.out w7 K7.out).mono ?_; rintro e w8 ⟨rfl, k8⟩
    have K8 := Lib.hid (K7.out.trans k8); clear k8
    go_wp2_with fail
    refine (ERZ.out w8 K8.out).mono ?_; rintro e w9 ⟨rfl, k9⟩
    have K9 := Lib.hid (K8.out.trans k9); clear k9
    go_wp2_with fail
    go_ret
    exact ⟨rfl, K9.out⟩
  · have OF := Lib.hid (fun w' (k : Kp w w') => POf_bad A m n d w' (ha.keep k) hn.symm hz)
    have DE := Lib.hid (fun w' (k : Kp w w') => PDet_bad A m n d w' (ha.keep k) hn.symm hz)
    rw [errOf_ne _ hz] at CK ERZ
    generalize pfcd m = z at *
    have e1 : ((z : Int) == 0) = false := by rw [beq_eq_false_iff_ne]; omega
    clear hl ha hn hz
    go_enter Tryd.func3, Tryd.ntmps3
    go_wp2_with fail
    refine (SW.out w (Kp.rfl' w)).mono ?_; rintro e w1 ⟨rfl, k1⟩
    have K1 := Lib.hid k1; clear k1
    go_wp2_with fail
    refine (CK.out w1 K1.out).mono ?_; rintro e w2 ⟨rfl, rfl⟩
    go_wp2_with fail
    refine (ERZ.out w1 K1.out).mono ?_; rintro e w3 ⟨rfl, k3⟩
    have K3 := Lib.hid (K1.out.trans k3); clear k3
    go_wp2_with fail
    refine (OF.out w3 K3.out).mono ?_; rintro e w6 ⟨rfl, k6⟩
    have K6 := Lib.hid (K3.out.trans k6); clear k6
    go_wp2_with fail
    refine (ERZ.out w6 K6.out).mono ?_; rintro e w7 ⟨rfl, k7⟩
    have K7 := Lib.hid (K6.out.trans k7); clear k7
    go_wp2_with fail
    refine (DE.out w7 K7.out).mono ?_; rintro e w8 ⟨rfl, k8⟩
    have K8 := Lib.hid (K7.out.trans k8); clear k8
    go_wp2_with fail
    refine (ERZ.out w8 K8.out).mono ?_; rintro e w9 ⟨rfl, k9⟩
    have K9 := Lib.hid (K8.out.trans k9); clear k9
    go_wp2_with fail
    go_ret
    exact ⟨rfl, K9.out⟩
end Go.Proofs.YtkebjmapdcbnaaaDoor
