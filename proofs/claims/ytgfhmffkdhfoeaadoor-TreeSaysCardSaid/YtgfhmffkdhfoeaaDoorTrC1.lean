/- Contracts of package tree, first part: checkEdge, Check. -/
import Derived.Test.YtgfhmffkdhfoeaaDoorMinS
import Derived.Test.YtgfhmffkdhfoeaaDoorGrid
import Derived.Test.YtgfhmffkdhfoeaaDoorTrM
namespace Go.Proofs.YtgfhmffkdhfoeaaDoor
open Go.ChangeShapes Go.WideShapes Go.ChangeAt Go.RowKit
set_option linter.unusedVariables false

/-- What is wrong with a pair of n points. -/
def ecd (n : Nat) (l : List Int) : Nat :=
  if l.length ≠ 2 then 3 else if l.getD 0 0 = l.getD 1 0 then 3 else if (0 ≤ l.getD 0 0 ∧ l.getD 0 0 < n) ∧ 0 ≤ l.getD 1 0 ∧ l.getD 1 0 < n then 0 else 1
/-- What is wrong with pairs, the first fault. -/
def pscd (n : Nat) : List (List Int) → Nat
  | [] => 0
  | l :: m => if ecd n l = 0 then pscd n m else ecd n l
/-- What is wrong with points and pairs. -/
def trcd (n : Int) (m : List (List Int)) : Nat := if n < 1 ∨ 6 < n then 1 else if 15 < m.length then 4 else pscd n.toNat m
theorem ecd_le (n : Nat) (l : List Int) : ecd n l ≤ 100 := by unfold ecd; split; omega; split; omega; split <;> omega
theorem pscd_le (n : Nat) : ∀ m, pscd n m ≤ 100
  | [] => Nat.zero_le _
  | l :: m => by unfold pscd; split; exact pscd_le n m; exact ecd_le n l
theorem trcd_le (n : Int) (m : List (List Int)) : trcd n m ≤ 100 := by
  unfold trcd
  split
  · omega
  · split
    · omega
    · exact pscd_le _ _
theorem pscd_drop {n : Nat} : ∀ {m : List (List Int)} {k : Nat}, k < m.length → pscd n (m.drop k) = if ecd n (m.getD k []) = 0 then pscd n (m.drop (k + 1)) else ecd n (m.getD k [])
  | [], k, h => absurd h (by simp)
  | l :: m, 0, _ => rfl
  | l :: m, k + 1, h => by
    rw [List.drop_succ_cons, List.getD_cons_succ, List.drop_succ_cons]
    exact pscd_drop (by rw [List.length_cons] at h; omega)
/-- A pair as numbers. -/
def pr2 (e : Nat × Nat) : List Int := [(e.1 : Int), (e.2 : Int)]
/-- A graph: n points, and pairs of different points. -/
structure Gr (n : Nat) (l : List (Nat × Nat)) (m : List (List Int)) : Prop where
  n1 : 1 ≤ n
  n6 : n ≤ 6
  few : l.length ≤ 15
  eq : m = l.map pr2
  ok : Zx.Okp n l
  ne : ∀ e, e ∈ l → e.1 ≠ e.2
theorem ecd_pair {n : Nat} {l : List Int} (h : ecd n l = 0) : ∃ e : Nat × Nat, l = pr2 e ∧ e.1 < n ∧ e.2 < n ∧ e.1 ≠ e.2 := by
  unfold ecd at h
  by_cases h1 : l.length ≠ 2
  · rw [if_pos h1] at h; cases h
  rw [if_neg h1] at h
  by_cases h2 : l.getD 0 0 = l.getD 1 0
  · rw [if_pos h2] at h; cases h
  rw [if_neg h2] at h
  by_cases h3 : (0 ≤ l.getD 0 0 ∧ l.getD 0 0 < n) ∧ 0 ≤ l.getD 1 0 ∧ l.getD 1 0 < n
  · match l, h1 with
    | [], h1 => exact absurd (by decide) h1
    | [_], h1 => exact absurd (by show 1 ≠ 2; decide) h1
    | _ :: _ :: _ :: m, h1 => exact absurd (by rw [List.length_cons, List.length_cons, List.length_cons]; omega) h1
    | [a, b], _ =>
      have h2 : a ≠ b := h2
      have h3 : (0 ≤ a ∧ a < n) ∧ 0 ≤ b ∧ b < n := h3
      exact ⟨(a.toNat, b.toNat), by show [a, b] = [(a.toNat : Int), (b.toNat : Int)]; rw [Int.toNat_of_nonneg h3.1.1, Int.toNat_of_nonneg h3.2.1], by show a.toNat < n; omega, by show b.toNat < n; omega, by show a.toNat ≠ b.toNat; omega⟩
  · rw [if_neg h3] at h; cases h
theorem pr2_ecd {n : Nat} {e : Nat × Nat} (h1 : e.1 < n) (h2 : e.2 < n) (h3 : e.1 ≠ e.2) : ecd n (pr2 e) = 0 := by
  unfold ecd
  rw [if_neg (by show ¬ (2 ≠ 2); omega), if_neg (by show ¬ ((e.1 : Int) = e.2); omega), if_pos (by show (0 ≤ (e.1 : Int) ∧ (e.1 : Int) < n) ∧ 0 ≤ (e.2 : Int) ∧ (e.2 : Int) < n; omega)]
theorem pscd_pairs {n : Nat} : ∀ {m : List (List Int)}, pscd n m = 0 → ∃ l : List (Nat × Nat), m = l.map pr2 ∧ Zx.Okp n l ∧ ∀ e, e ∈ l → e.1 ≠ e.2
  | [], _ => ⟨[], rfl, fun _ h => absurd h (by simp), fun _ h => absurd h (by simp)⟩
  | p :: m, h => by
    have h : (if ecd n p = 0 then pscd n m else ecd n p) = 0 := h
    by_cases h0 : ecd n p = 0
    · rw [if_pos h0] at h
      obtain ⟨l, rfl, h1, h2⟩ := pscd_pairs h
      obtain ⟨e, rfl, e1, e2, e3⟩ := ecd_pair h0
      refine ⟨e :: l, rfl, fun x hx => ?_, fun x hx => ?_⟩
      · rcases List.mem_cons.1 hx with rfl | hx
        · exact ⟨e1, e2⟩
        · exact h1 x hx
      · rcases List.mem_cons.1 hx with rfl | hx
        · exact e3
        · exact h2 x hx
    · rw [if_neg h0] at h; exact absurd h h0
theorem pairs_pscd {n : Nat} : ∀ {l : List (Nat × Nat)}, Zx.Okp n l → (∀ e, e ∈ l → e.1 ≠ e.2) → pscd n (l.map pr2) = 0
  | [], _, _ => rfl
  | e :: l, h1, h2 => by
    have he := h1 e (List.mem_cons_self ..)
    show (if ecd n (pr2 e) = 0 then pscd n (l.map pr2) else ecd n (pr2 e)) = 0
    rw [if_pos (pr2_ecd he.1 he.2 (h2 e (List.mem_cons_self ..)))]
    exact pairs_pscd (fun x hx => h1 x (List.mem_cons_of_mem _ hx)) fun x hx => h2 x (List.mem_cons_of_mem _ hx)
theorem Gr.code {n : Nat} {l : List (Nat × Nat)} {m : List (List Int)} (h : Gr n l m) : trcd (n : Int) m = 0 := by
  unfold trcd
  have h1 := h.n1
  have h2 := h.n6
  have h3 := h.few
  rw [if_neg (by omega), if_neg (by rw [h.eq, List.length_map]; omega), Int.toNat_natCast, h.eq]
  exact pairs_pscd h.ok h.ne
theorem gr_or (n : Int) (m : List (List Int)) : (∃ k l, n = (k : Nat) ∧ Gr k l m) ∨ trcd n m ≠ 0 := by
  by_cases h : trcd n m = 0
  · left
    unfold trcd at h
    by_cases h1 : n < 1 ∨ 6 < n
    · rw [if_pos h1] at h; cases h
    rw [if_neg h1] at h
    by_cases h2 : 15 < m.length
    · rw [if_pos h2] at h; cases h
    rw [if_neg h2] at h
    obtain ⟨l, e, o, d⟩ := pscd_pairs h
    exact ⟨n.toNat, l, by omega, by omega, by omega, by rw [e, List.length_map] at h2; omega, e, o, d⟩
  · exact .inr h
theorem Gr.len {n : Nat} {l : List (Nat × Nat)} {m : List (List Int)} (h : Gr n l m) : m.length = l.length := by rw [h.eq, List.length_map]
theorem Gr.at' {n : Nat} {l : List (Nat × Nat)} {m : List (List Int)} (h : Gr n l m) {k : Nat} (hk : k < l.length) : m.getD k [] = pr2 (l.getD k (0, 0)) := by
  rw [h.eq, List.getD_eq_getElem?_getD, List.getD_eq_getElem?_getD, List.getElem?_map, List.getElem?_eq_getElem hk]; rfl
theorem Gr.mem {n : Nat} {l : List (Nat × Nat)} {m : List (List Int)} (h : Gr n l m) {k : Nat} (hk : k < l.length) : (l.getD k (0, 0)).1 < n ∧ (l.getD k (0, 0)).2 < n ∧ (l.getD k (0, 0)).1 ≠ (l.getD k (0, 0)).2 := by
  have e : l.getD k (0, 0) ∈ l := by rw [List.getD_eq_getElem?_getD, List.getElem?_eq_getElem hk]; exact List.getElem_mem hk
  exact ⟨(h.ok _ e).1, (h.ok _ e).2, h.ne _ e⟩

set_option maxRecDepth 100000 in
set_option maxHeartbeats 1600000 in
theorem edge_any (n : Nat) (A : Option Addr) (l : List Int) (q d : Nat) (w : World) (ha : Lies w A l) (hq : l.length = q) (hn : n ≤ 6) :
    Calls Tryd.prog 18 #[.int .i64 (n : Int), .slice A q d] w fun e w' => e = .returned (errOf (ecd n l)) ∧ Drew w w' := by
  obtain ⟨v, hv⟩ : ∃ v, v = ecd n l := ⟨_, rfl⟩
  rw [← hv]
  unfold ecd at hv
  by_cases h2 : q = 2
  · subst h2
    rw [if_neg (by omega)] at hv
    obtain ⟨ad, rfl, _, c0⟩ := ha 0 (by omega)
    obtain ⟨ad', e', _, c1⟩ := ha 1 (by omega)
    obtain rfl := Option.some.inj e'
    clear e'
    have MN := Lib.hid (fun (w' : World) (h : Lies w' (some ad) l) => smin_any (some ad) l 2 d w' h hq (by omega) (by omega))
    have MX := Lib.hid (fun (w' : World) (h : Lies w' (some ad) l) => smax_any (some ad) l 2 d w' h hq (by omega) (by omega))
    have HA := Lib.hid ha
    have LE := Lib.hid (fun v (h : Least l 2 v) => show v = if l.getD 0 0 ≤ l.getD 1 0 then l.getD 0 0 else l.getD 1 0 from by
      have a := h.1 0 (by omega)
      have b := h.1 1 (by omega)
      obtain ⟨j, hj, hj2⟩ := h.2
      rcases (show j = 0 ∨ j = 1 by omega) with rfl | rfl
      · rw [if_pos (by omega)]; exact hj2
      · split <;> omega)
    have MO := Lib.hid (fun v (h : Most l 2 v) => show v = if l.getD 0 0 ≤ l.getD 1 0 then l.getD 1 0 else l.getD 0 0 from by
      have a := h.1 0 (by omega)
      have b := h.1 1 (by omega)
      obtain ⟨j, hj, hj2⟩ := h.2
      rcases (show j = 0 ∨ j = 1 by omega) with rfl | rfl
      · split <;> omega
      · rw [if_pos (by omega)]; exact hj2)
    obtain ⟨x, hx⟩ : ∃ x, x = l.getD 0 0 := ⟨_, rfl⟩
    obtain ⟨y, hy⟩ : ∃ y, y = l.getD 1 0 := ⟨_, rfl⟩
    rw [← hx] at c0 hv LE MO
    rw [← hy] at c1 hv LE MO
    rw [add_zero'] at c0
    change w.cell? ⟨ad.block, ad.off + 1, none⟩ = some (.int .i64 y) at c1
    clear ha hq hx hy
    by_cases h3 : x = y
    · rw [if_pos h3] at hv
      have e2 : (x == y) = true := by rw [beq_iff_eq]; exact h3
      rw [hv]
      clear hv h3
      go_enter Tryd.func18, Tryd.ntmps18
      go_wp2_with fail
      go_quiet (fail)
      go_wp2_with fail
      go_ret
      exact ⟨rfl, _, rfl⟩
    · rw [if_neg h3] at hv
      have e2 : (x == y) = false := by rw [beq_eq_false_iff_ne]; exact h3
      by_cases h4 : (if x ≤ y then x else y) < 0
      · rw [if_neg (by split at h4 <;> omega)] at hv
        rw [hv]
        clear hv h3 MX MO
        generalize (if x ≤ y then x else y) = z at *
        go_enter Tryd.func18, Tryd.ntmps18
        go_wp2_with fail
        go_quiet (fail)
        go_wp2_with fail
        refine (MN.out _ (HA.out.keep ((Kp.rfl' _).drewN _))).mono ?_; rintro e w' ⟨v, rfl, rfl, hl⟩
        obtain rfl := LE.out v hl
        clear hl
        go_wp2_with fail
        go_ret
        exact ⟨rfl, _, rfl⟩
      · by_cases h5 : (if x ≤ y then y else x) < n
        · rw [if_pos (by split at h4 <;> split at h5 <;> omega)] at hv
          rw [hv]
          clear hv h3
          generalize (if x ≤ y then x else y) = z at *
          generalize (if x ≤ y then y else x) = t at *
          go_enter Tryd.func18, Tryd.ntmps18
          go_wp2_with fail
          go_quiet (fail)
          go_wp2_with fail
          refine (MN.out _ (HA.out.keep ((Kp.rfl' _).drewN _))).mono ?_; rintro e w' ⟨v, rfl, rfl, hl⟩
          obtain rfl := LE.out v hl
          clear hl
          go_wp2_with fail
          refine (MX.out _ (HA.out.keep ((Kp.rfl' _).drewN _))).mono ?_; rintro e w' ⟨v, rfl, rfl, hl⟩
          obtain rfl := MO.out v hl
          clear hl
          go_wp2_with fail
          go_ret
          exact ⟨rfl, _, rfl⟩
        · rw [if_neg (by split at h4 <;> split at h5 <;> omega)] at hv
          rw [hv]
          clear hv h3
          generalize (if x ≤ y then x else y) = z at *
          generalize (if x ≤ y then y else x) = t at *
          go_enter Tryd.func18, Tryd.ntmps18
          go_wp2_with fail
          go_quiet (fail)
          go_wp2_with fail
          refine (MN.out _ (HA.out.keep ((Kp.rfl' _).drewN _))).mono ?_; rintro e w' ⟨v, rfl, rfl, hl⟩
          obtain rfl := LE.out v hl
          clear hl
          go_wp2_with fail
          refine (MX.out _ (HA.out.keep ((Kp.rfl' _).drewN _))).mono ?_; rintro e w' ⟨v, rfl, rfl, hl⟩
          obtain rfl := MO.out v hl
          clear hl
          go_wp2_with fail
          go_ret
          exact ⟨rfl, _, rfl⟩
  · rw [if_pos (by omega)] at hv
    rw [hv]
    have e1 : ((q : Int) != 2) = true := by rw [bne_iff_ne]; omega
    clear hv ha hq h2
    go_enter Tryd.func18, Tryd.ntmps18
    go_wp2_with fail
    go_quiet (fail)
    go_wp2_with fail
    go_ret
    exact ⟨rfl, _, rfl⟩

set_option maxRecDepth 100000 in
set_option maxHeartbeats 1600000 in
theorem TChk_any (n : Int) (A : Option Addr) (m : List (List Int)) (q d : Nat) (w : World) (ha : LiesM w A m) (hq : m.length = q) :
    Calls Tryd.prog 7 #[.int .i64 n, .slice A q d] w fun e w' => e = .returned (errOf (trcd n m)) ∧ Drew w w' := by
  obtain ⟨v, hv⟩ : ∃ v, v = trcd n m := ⟨_, rfl⟩
  rw [← hv]
  unfold trcd at hv
  by_cases h1 : n < 1
  · rw [if_pos (.inl h1)] at hv
    rw [hv]
    clear hv ha hq
    go_enter Tryd.func7, Tryd.ntmps7
    go_wp2_with fail
    go_ret
    exact ⟨rfl, 0, rfl⟩
  by_cases h2 : 6 < n
  · rw [if_pos (.inr h2)] at hv
    rw [hv]
    clear hv ha hq
    go_enter Tryd.func7, Tryd.ntmps7
    go_wp2_with fail
    go_ret
    exact ⟨rfl, 0, rfl⟩
  rw [if_neg (by omega)] at hv
  by_cases h3 : 15 < q
  · rw [if_pos (by omega)] at hv
    rw [hv]
    have h3 : (15 : Int) < q := by omega
    clear hv ha hq
    go_enter Tryd.func7, Tryd.ntmps7
    go_wp2_with fail
    go_ret
    exact ⟨rfl, 0, rfl⟩
  rw [if_neg (by omega)] at hv
  obtain ⟨k, rfl⟩ : ∃ k : Nat, n = k := ⟨n.toNat, by omega⟩
  rw [Int.toNat_natCast] at hv
  have i1 : decide ((k : Int) < 1) = false := by simp; omega
  have i2 : decide ((6 : Int) < (k : Int)) = false := by simp; omega
  have i3 : decide ((15 : Int) < (q : Int)) = false := by simp; omega
  have HA := Lib.hid ha
  have HQ := Lib.hid hq
  have HK := Lib.hid (show k ≤ 6 by omega)
  have q15 : q ≤ 15 := by omega
  have G0 := Lib.hid (show pscd k m = pscd k (m.drop 0) from rfl)
  have EN := Lib.hid (fun (h : pscd k m = pscd k (m.drop q)) => show v = 0 by rw [hv, h, List.drop_of_length_le (by omega)]; rfl)
  have BD := Lib.hid (fun (j : Nat) (hj : j < q) (h : pscd k m = pscd k (m.drop j)) (h0 : ecd k (m.getD j []) ≠ 0) => show v = ecd k (m.getD j []) by rw [hv, h, pscd_drop (by omega), if_neg h0])
  have ST := Lib.hid (fun (j : Nat) (hj : j < q) (h : pscd k m = pscd k (m.drop j)) (h0 : ecd k (m.getD j []) = 0) => show pscd k m = pscd k (m.drop (j + 1)) by rw [h, pscd_drop (by omega), if_pos h0])
  clear ha hq hv h1 h2 h3
  go_enter Tryd.func7, Tryd.ntmps7
  go_wp2_with fail
  go_loopw [21] (fun i wr => ∃ j : Nat, j ≤ q ∧ i = .int .i64 (j : Int) ∧ pscd k m = pscd k (m.drop j) ∧ Drew w wr) (fun i _ => q - (intOf i).toNat)
  case atStart => exact ⟨0, Nat.zero_le _, rfl, G0.out, Drew.refl _⟩
  case round =>
    obtain ⟨j, hj, rfl, hg, hd⟩ := hrel
    have HG := Lib.hid hg
    have HD := Lib.hid hd
    clear hg hd
    by_cases hlt : j < q
    · obtain ⟨ad, A1, d1, rfl, _, hc1, _, hr1⟩ := (HA.out.keep HD.out.kp) j (by have := HQ.out; omega)
      have CR := Lib.hid (edge_any k A1 (m.getD j []) _ d1 wr hr1 rfl HK.out)
      obtain ⟨p, hp⟩ : ∃ p, p = (m.getD j []).length := ⟨_, rfl⟩
      rw [← hp] at hc1 CR
      by_cases h0 : ecd k (m.getD j []) = 0
      · have S1 := Lib.hid (ST.out j hlt HG.out h0)
        rw [h0] at CR
        clear hr1 hp h0
        go_wp2_with fail
        refine (CR.out).mono ?_; rintro e w' ⟨rfl, hd⟩
        have HD2 := Lib.hid (HD.out.trans hd)
        clear hd
        rw [errOf_zero]
        go_wp2_with fail
        go_roundw
        case rel => exact ⟨j + 1, by omega, by go_num, S1.out, HD2.out⟩
        case measure => simp [intOf]; omega
      · have E := Lib.hid (BD.out j hlt HG.out h0)
        rw [errOf_ne _ h0] at CR
        have E2 := Lib.hid (show errOf v = .iface 40 (.int .i64 ((ecd k (m.getD j []) : Nat) : Int)) by rw [E.out, errOf_ne _ h0])
        generalize ecd k (m.getD j []) = z at *
        clear hr1 hp h0
        go_wp2_with fail
        refine (CR.out).mono ?_; rintro e w' ⟨rfl, hd⟩
        have HD2 := Lib.hid (HD.out.trans hd)
        clear hd
        go_wp2_with fail
        go_ret
        exact ⟨by rw [E2.out]; rfl, HD2.out⟩
    · obtain rfl : j = q := by omega
      have E := Lib.hid (EN.out HG.out)
      go_wp2_with fail
      go_ret
      exact ⟨by rw [E.out]; rfl, HD.out⟩

end Go.Proofs.YtgfhmffkdhfoeaaDoor
