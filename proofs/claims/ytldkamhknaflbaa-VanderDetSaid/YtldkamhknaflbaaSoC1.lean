/- Contracts of package solve, first part: what keeps what, unit, checkSide, the function that valueOf makes. -/
import Derived.Test.YtldkamhknaflbaaGaC3
import Derived.Test.YtldkamhknaflbaaMatS
namespace Go.Proofs.Ytldkamhknaflbaa
open Go.ChangeShapes Go.WideShapes Go.ChangeAt Go.RowKit
set_option linter.unusedVariables false

/-- Nothing but what stands in some blocks has turned. -/
structure Save (S : Nat → Prop) (w w' : World) : Prop where
  os : w'.os = w.os
  tape : w'.tape = w.tape
  output : w'.output = w.output
  size : w.heap.size ≤ w'.heap.size
  block : ∀ b, b < w.heap.size → ¬ S b → w'.heap[b]? = w.heap[b]?
theorem Save.of {S : Nat → Prop} {w w' : World} (h : Kp w w') : Save S w w' := ⟨h.os, h.tape, h.output, h.size, fun b hb _ => h.block b hb⟩
theorem Save.refl (S : Nat → Prop) (w : World) : Save S w w := Save.of (Kp.rfl' w)
theorem Save.trans {S : Nat → Prop} {a b c : World} (h : Save S a b) (k : Save S b c) : Save S a c :=
  ⟨k.os.trans h.os, k.tape.trans h.tape, k.output.trans h.output, Nat.le_trans h.size k.size, fun i hi hn => (k.block i (Nat.lt_of_lt_of_le hi h.size) hn).trans (h.block i hi hn)⟩
theorem Save.drewN {S : Nat → Prop} {a b : World} (h : Save S a b) (n : Nat) : Save S a (b.drewN n) := h.trans (Save.of ((Kp.rfl' b).drewN n))
theorem Save.put {S : Nat → Prop} {a b : World} (h : Save S a b) {p : Addr} (hp : S p.block) (u : Value) : Save S a (b.setCell p u) :=
  h.trans ⟨rfl, rfl, rfl, by simp [World.setCell], fun k _ hn => Below.heap_setCell _ _ _ _ (fun e => hn (by rw [e]; exact hp))⟩
theorem Save.below {S : Nat → Prop} {B : Nat} {w0 w w' : World} (h : Save S w w') (hb : Below B w0 w) (hB : B ≤ w.heap.size) (hS : ∀ b, S b → B ≤ b) : Below B w0 w' :=
  hb.trans ⟨h.os, h.tape, h.output, h.size, fun k hk => h.block k (by omega) fun e => by have := hS k e; omega⟩
theorem Save.cell {S : Nat → Prop} {w w' : World} (h : Save S w w') {a : Addr} {v : Value} (hc : w.cell? a = some v) (hn : ¬ S a.block) : w'.cell? a = some v :=
  (World.cell?_of_block (w := w) (h.block a.block (cell_lt hc) hn)).trans hc
theorem ownsRow_save {S : Nat → Prop} {w w' : World} {B n : Nat} {e : TypeId} {v : Value} {xs : List Value} (h : w.ownsRow B e 1 v n xs) (hk : Save S w w') (hn : ∀ b, v.ownBlock = some b → ¬ S b) : w'.ownsRow B e 1 v n xs := by
  obtain ⟨h1, h2⟩ := h
  refine ⟨h1, ?_⟩
  rcases h2 with h2 | ⟨g, cap, cur, rfl, hg, hh, r⟩
  · exact .inl h2
  · refine .inr ⟨g, cap, cur, rfl, hg, ?_, r⟩
    rw [hk.block g ?_ (hn g rfl)]; exact hh
    rcases Nat.lt_or_ge g w.heap.size with hlt | hge
    · exact hlt
    · rw [Array.getElem?_eq_none hge] at hh; cases hh
theorem Own.save {S : Nat → Prop} {w w' : World} {B : Nat} {v : Value} {l : List Int} (h : Own w B v l) (hk : Save S w w') (hn : ∀ b, v.ownBlock = some b → ¬ S b) : Own w' B v l := ownsRow_save h hk hn
theorem OwnM.save {S : Nat → Prop} {w w' : World} {B : Nat} {v : Value} {G C : Nat → Nat} {m : List (List Int)} (h : OwnM w B v G C m) (hk : Save S w w') (hn : ∀ b, v.ownBlock = Option.some b → ¬ S b) (hr : ∀ i, i < m.length → ¬ S (G i)) : OwnM w' B v G C m :=
  ⟨ownsRow_save h.top hk hn, fun i hi => (h.row i hi).save hk fun b hb => by
    have : G i = b := Option.some.inj hb
    rw [← this]; exact hr i hi, h.apart⟩

/-- A row of numbers of the field. -/
abbrev rowF (c : Nat) (u : Nat → Fp.F) : List Int := Mx.row c fun j => ((u j).val : Int)
theorem matl_row {n c : Nat} (W : Nat → Nat → Fp.F) {k : Nat} (hk : k < n) : (Mx.matl n c W).getD k [] = rowF c (W k) := Mx.tab_at _ _ _ _ hk

theorem more_mod (s a b : Fp.F) : ((s.val : Int) + (a.val : Int) * (b.val : Int)).tmod 9973 = ((s + a * b).val : Int) := by
  have h := times_bound a b
  rw [Int.tmod_eq_emod_of_nonneg (by have := gval s; omega), Mx.val_more]
theorem sub_mod (a b : Fp.F) : ((a.val : Int) - (b.val : Int) + 9973).tmod 9973 = ((a - b).val : Int) := by
  have h1 := gval a
  have h2 := gval b
  rw [Int.tmod_eq_emod_of_nonneg (by omega), ← Fp.ofInt_val]
  have h : Fp.ofInt ((a.val : Int) - (b.val : Int) + 9973) + b = a := by
    have := Fp.ofInt_add ((a.val : Int) - (b.val : Int) + 9973) (b.val : Int)
    rw [Fp.ofInt_self, show (a.val : Int) - (b.val : Int) + 9973 + (b.val : Int) = (a.val : Int) + 9973 by omega, Fp.ofInt_add, Fp.ofInt_self, show Fp.ofInt 9973 = 0 from rfl] at this
    rw [← this]; grind
  have : Fp.ofInt ((a.val : Int) - (b.val : Int) + 9973) = a - b := by rw [← h]; grind
  rw [this]

/-- The function that valueOf made stands over row i of f: its box names the row, which lies in what was there. -/
structure Val (w : World) (gp B0 c : Nat) (f : Nat → Nat → Fp.F) (i : Nat) : Prop where
  ex : ∃ A1 d1, w.cell? ⟨gp, 0, none⟩ = some (.slice A1 c d1) ∧ LiesIn w B0 A1 (rowF c (f i))
theorem Val.save {S : Nat → Prop} {w w' : World} {gp B0 c : Nat} {f : Nat → Nat → Fp.F} {i : Nat} (h : Val w gp B0 c f i) (hk : Save S w w') (hg : ¬ S gp) (hS : ∀ b, S b → B0 ≤ b) (hB : B0 ≤ w.heap.size) : Val w' gp B0 c f i := by
  obtain ⟨A1, d1, h1, h2⟩ := h.ex
  exact ⟨A1, d1, hk.cell h1 hg, h2.below (hk.below (Below.refl B0 w) hB hS)⟩
theorem Val.keep {w w' : World} {gp B0 c : Nat} {f : Nat → Nat → Fp.F} {i : Nat} (h : Val w gp B0 c f i) (hk : Kp w w') (hB : B0 ≤ w.heap.size) : Val w' gp B0 c f i :=
  h.save (Save.of (S := fun _ => False) hk) (fun h => h) (fun _ h => h.elim) hB

set_option maxRecDepth 100000 in
theorem valueOf_any (A1 : Option Addr) (c d1 : Nat) (w : World) :
    Calls Try.prog 37 #[.slice A1 c d1] w fun e w' =>
      e = .returned (.func (.func 54) #[] #[.pointer (some ⟨w.heap.size, 0, none⟩)]) ∧ w'.cell? ⟨w.heap.size, 0, none⟩ = some (.slice A1 c d1) ∧ Kp w w' := by
  go_enter Try.func37, Try.ntmps37
  go_wp2_with fail
  go_ret
  exact ⟨rfl, cell_made w _ _ _ 0 rfl, (Kp.rfl' w).new _⟩

set_option maxRecDepth 100000 in
set_option maxHeartbeats 1600000 in
theorem value_any (A : Option Addr) (gp B0 c d i : Nat) (f : Nat → Nat → Fp.F) (u : Nat → Fp.F) (w : World) (hc : c ≤ 1000) (h : Val w gp B0 c f i) (hB : B0 ≤ w.heap.size) (hu : Lies w A (rowF c u)) :
    Calls Try.prog 54 #[.slice A c d, .pointer (some ⟨gp, 0, none⟩)] w fun e w' => e = .returned (.int .i64 ((Mx.tov c f u i).val : Int)) ∧ w = w' := by
  obtain ⟨A1, d1, y1, hl⟩ := h.ex
  have HR := Lib.hid (hl.lies hB)
  have HU := Lib.hid hu
  have HT := Lib.hid (show Mx.tov c f u i = Mx.sg c fun j => f i j * u j from rfl)
  clear h hl hu hB
  generalize Mx.tov c f u i = tt at *
  go_enter Try.func54, Try.ntmps54
  go_wp2_with fail
  go_loop [4, 9] (fun s j => ∃ k : Nat, k ≤ c ∧ j = .int .i64 (k : Int) ∧ s = .int .i64 ((Mx.sg k fun j => f i j * u j).val : Int)) (fun _ j => c - (intOf j).toNat)
  case atStart => exact ⟨0, Nat.zero_le _, rfl, rfl⟩
  case round =>
    obtain ⟨k, hk, rfl, rfl⟩ := hrel
    by_cases hlt : k < c
    · obtain ⟨ad1, rfl, _, x1⟩ := HR.out.el hlt
      obtain ⟨ad2, rfl, _, x2⟩ := HU.out.el hlt
      have hm := more_mod (Mx.sg k fun j => f i j * u j) (f i k) (u k)
      have hb := times_bound (f i k) (u k)
      have hs := gval (Mx.sg k fun j => f i j * u j)
      obtain ⟨z, hz⟩ : ∃ z, z = (((Mx.sg k fun j => f i j * u j) + f i k * u k : Fp.F).val : Int) := ⟨_, rfl⟩
      rw [← hz] at hm
      have HZ := Lib.hid (show z = ((Mx.sg (k + 1) fun j => f i j * u j).val : Int) from hz)
      clear hz
      generalize ((Mx.sg k fun j => f i j * u j).val : Int) = s at *
      generalize ((f i k).val : Int) = a at *
      generalize ((u k).val : Int) = b at *
      have hwm : IntKind.i64.wrap (a * b) = a * b := IntWalk.i64_in _ (by omega)
      have hwa : IntKind.i64.wrap (s + a * b) = s + a * b := IntWalk.i64_in _ (by omega)
      go_wp2_with fail
      go_round
      case rel => exact ⟨k + 1, by omega, by go_num, by rw [HZ.out]⟩
      case measure => simp [intOf]; omega
    · obtain rfl : k = c := by omega
      rw [← HT.out]
      go_wp2_with fail
      go_ret
      exact ⟨rfl, rfl⟩

set_option maxRecDepth 100000 in
theorem moves_any (A : Option Addr) (gb gp B0 c d i : Nat) (f : Nat → Nat → Fp.F) (u : Nat → Fp.F) (w : World) (hc : c ≤ 1000) (hb : w.cell? ⟨gb, 0, none⟩ = some (.func (.func 54) #[] #[.pointer (some ⟨gp, 0, none⟩)]))
    (h : Val w gp B0 c f i) (hB : B0 ≤ w.heap.size) (hu : Lies w A (rowF c u)) :
    Calls Try.prog 51 #[.slice A c d, .pointer (some ⟨gb, 0, none⟩)] w fun e w' => e = .returned (.bool (((Mx.tov c f u i).val : Int) != 0)) ∧ w = w' := by
  have V := Lib.hid (value_any A gp B0 c d i f u w hc h hB hu)
  clear h hu hB
  generalize ((Mx.tov c f u i).val : Int) = z at *
  go_enter Try.func51, Try.ntmps51
  go_wp2_with fail
  refine (V.out).mono ?_; rintro e w' ⟨rfl, rfl⟩
  go_wp2_with fail
  go_ret
  exact ⟨rfl, rfl⟩

set_option maxRecDepth 100000 in
set_option maxHeartbeats 1600000 in
/-- The first way that moves. -/
theorem ways_any (A : Option Addr) (gb gp B0 n c d i : Nat) (f W : Nat → Nat → Fp.F) (w : World) (hc : c ≤ 1000) (hn : n ≤ 1000) (hb : w.cell? ⟨gb, 0, none⟩ = some (.func (.func 54) #[] #[.pointer (some ⟨gp, 0, none⟩)]))
    (h : Val w gp B0 c f i) (hB : B0 ≤ w.heap.size) (hw : LiesM w A (Mx.matl n c W)) :
    Calls Try.prog 50 #[.slice A n d, .func (.func 51) #[] #[.pointer (some ⟨gb, 0, none⟩)]] w fun e w' =>
      ((∃ k : Nat, k < n ∧ Mx.tov c f (W k) i ≠ 0 ∧ e = .returned (.int .i64 (k : Int))) ∨ ((∀ k, k < n → Mx.tov c f (W k) i = 0) ∧ e = .returned (.int .i64 (-1)))) ∧ w = w' := by
  have MV := Lib.hid (fun (A : Option Addr) (d : Nat) (u : Nat → Fp.F) (hu : Lies w A (rowF c u)) => moves_any A gb gp B0 c d i f u w hc hb h hB hu)
  have HW := Lib.hid hw
  clear hb h hB hw
  go_enter Try.func50, Try.ntmps50
  go_wp2_with fail
  go_loop [8] (fun j => ∃ k : Nat, k ≤ n ∧ j = .int .i64 (k : Int) ∧ ∀ t, t < k → Mx.tov c f (W t) i = 0) (fun j => n - (intOf j).toNat)
  case atStart => exact ⟨0, Nat.zero_le _, rfl, fun t ht => absurd ht (by omega)⟩
  case round =>
    obtain ⟨k, hk, rfl, hz⟩ := hrel
    have HZ := Lib.hid hz
    clear hz
    by_cases hlt : k < n
    · obtain ⟨ad, A1, d1, rfl, _, x1, _, l1⟩ := HW.out.row hlt
      have M := Lib.hid (MV.out A1 d1 (W k) l1)
      clear l1
      by_cases h0 : Mx.tov c f (W k) i = 0
      · rw [h0, show ((((0 : Fp.F).val : Nat) : Int) != 0) = false from rfl] at M
        have HZ2 := Lib.hid (show ∀ t, t < k + 1 → Mx.tov c f (W t) i = 0 from fun t ht => by
          by_cases e : t = k
          · rw [e]; exact h0
          · exact HZ.out t (by omega))
        clear h0
        go_wp2_with fail
        refine (M.out).mono ?_; rintro e w' ⟨rfl, rfl⟩
        go_wp2_with fail
        go_round
        case rel => exact ⟨k + 1, by omega, by go_num, HZ2.out⟩
        case measure => simp [intOf]; omega
      · have HN := Lib.hid h0
        have hv := Fp.ne_val h0
        rw [show (((Mx.tov c f (W k) i).val : Int) != 0) = true by rw [bne_iff_ne]; omega] at M
        clear h0 hv
        go_wp2_with fail
        refine (M.out).mono ?_; rintro e w' ⟨rfl, rfl⟩
        go_wp2_with fail
        go_ret
        exact ⟨.inl ⟨k, hlt, HN.out, rfl⟩, rfl⟩
    · obtain rfl : k = n := by omega
      go_wp2_with fail
      go_ret
      exact ⟨.inr ⟨HZ.out, rfl⟩, rfl⟩

set_option maxRecDepth 100000 in
set_option maxHeartbeats 1600000 in
theorem unit_any (c j : Nat) (w : World) (hc : c ≤ 1000) (hj : j < c) :
    Calls Try.prog 35 #[.int .i64 (c : Int), .int .i64 (j : Int)] w fun e w' =>
      ∃ g, e = .returned (.slice (some ⟨g, 0, none⟩) c c) ∧ w.heap.size ≤ g ∧ Row w' g (rowF c fun k => if k = j then 1 else 0) ∧ Kp w w' := by
  obtain ⟨i0, hi, hz0, hz1, hz2⟩ := info_parts int_info
  go_enter Try.func35, Try.ntmps35
  go_wp2_with (at_make; refine wpList_make_full _ rfl _ _ 22 rfl w.heap.size 3 i0 (.int .i64 0) 1 Try.underlying22 hi hz0 hz1 _ _ _ _ c rfl rfl rfl rfl (by rw [hz2]; omega) (by unfold maxLen; omega) (Nat.le_refl _) ?_; intro w2 hown hgrow; have hkp2 : Kp w w2 := (Kp.rfl' w).grown hgrow (by simp) (fun k hk => by cases hk); have hrow := row_made hown; have hcell := hrow.cell j (by rw [List.length_replicate]; exact hj); have hfree := hrow.free j)
  go_ret
  refine ⟨w.heap.size, rfl, Nat.le_refl _, ?_, hkp2.put (p := ⟨w.heap.size, j, none⟩) (Nat.le_refl _) _⟩
  have := hrow.put j 1
  rw [Mx.row_rep, Mx.row_set] at this
  rw [show rowF c (fun k => if k = j then 1 else 0) = Mx.row c fun k => if k = j then 1 else 0 from Mx.row_ext fun k _ => by
    by_cases e : k = j
    · simp only [if_pos e]; rfl
    · simp only [if_neg e]; rfl]
  exact this

set_option maxRecDepth 100000 in
set_option maxHeartbeats 800000 in
theorem checkSide_any (A : Option Addr) (l : List Int) (n d c : Nat) (w : World) (ha : Lies w A l) (hn : l.length = n) (hb : c ≤ 1000) :
    Calls Try.prog 34 #[.slice A n d, .int .i64 (c : Int)] w fun e w' => e = .returned (errOf (Mx.rcode 0 9972 c l)) ∧ w = w' := by
  have HA := Lib.hid ha
  have HN := Lib.hid hn
  obtain ⟨v, hv⟩ : ∃ v, v = Mx.rcode 0 9972 c l := ⟨_, rfl⟩
  by_cases hc : n = c
  · subst hc
    have RNG := Lib.hid (fun (k : Nat) (hk : k < n) h2 => hv.trans (Mx.rcode_bad hn (k := k) (by omega) h2))
    have OKS := Lib.hid (fun h2 => hv.trans (Mx.rcode_ok (lo := 0) (hi := 9972) hn h2))
    rw [← hv]
    have e1 : ((n : Int) != (n : Int)) = false := by simp
    clear ha hn hv
    go_enter Try.func34, Try.ntmps34
    go_wp2_with fail
    go_loop [14] (fun i => ∃ k : Nat, k ≤ n ∧ i = .int .i64 (k : Int) ∧ ∀ j, j < k → 0 ≤ l.getD j 0 ∧ l.getD j 0 ≤ 9972) (fun i => n - (intOf i).toNat)
    case atStart => exact ⟨0, Nat.zero_le _, rfl, fun j hj => absurd hj (by omega)⟩
    case round =>
      obtain ⟨k, hk, rfl, hg⟩ := hrel
      have HG := Lib.hid hg
      clear hg
      by_cases hlt : k < n
      · obtain ⟨ad, rfl, _, hcx⟩ := HA.out k (by have := HN.out; omega)
        obtain ⟨x, hx⟩ : ∃ x, x = l.getD k 0 := ⟨_, rfl⟩
        rw [← hx] at hcx
        by_cases x0 : x < 0
        · have E := Lib.hid (RNG.out k hlt (by rw [← hx]; omega))
          clear hx
          go_wp2_with fail
          go_ret
          exact ⟨by rw [E.out]; rfl, rfl⟩
        · by_cases x1 : 9973 ≤ x
          · have E := Lib.hid (RNG.out k hlt (by rw [← hx]; omega))
            clear hx
            go_wp2_with fail
            go_ret
            exact ⟨by rw [E.out]; rfl, rfl⟩
          · have GG := Lib.hid (show ∀ j, j < k + 1 → 0 ≤ l.getD j 0 ∧ l.getD j 0 ≤ 9972 from fun j hj => by
              by_cases e : j = k
              · subst e; rw [← hx]; omega
              · exact HG.out j (by omega))
            clear hx
            go_wp2_with fail
            go_round
            case rel => exact ⟨k + 1, by omega, by go_num, GG.out⟩
            case measure => simp [intOf]; omega
      · have E := Lib.hid (OKS.out (fun j hj => HG.out j (by have := HN.out; omega)))
        go_wp2_with fail
        go_ret
        exact ⟨by rw [E.out]; rfl, rfl⟩
  · have E := Lib.hid (hv.trans (Mx.rcode_len (lo := 0) (hi := 9972) (by omega : l.length ≠ c)))
    rw [← hv]
    have e1 : ((n : Int) != (c : Int)) = true := by rw [bne_iff_ne]; omega
    clear ha hn hv hc
    go_enter Try.func34, Try.ntmps34
    go_wp2_with fail
    go_ret
    exact ⟨by rw [E.out]; rfl, rfl⟩
end Go.Proofs.Ytldkamhknaflbaa
