/- Contracts of package paths, first part: Check, Ways. -/
import Derived.Test.YtolkdbijenbchaaDoorClV
import Derived.Test.YtolkdbijenbchaaDoorNz
import Derived.Test.YtolkdbijenbchaaDoorMatM
import Derived.Test.YtolkdbijenbchaaDoorPhM
import Derived.StillTailTactics
namespace Go.Proofs.YtolkdbijenbchaaDoor
open Go.ChangeShapes Go.WideShapes Go.ChangeAt Go.RowKit
set_option linter.unusedVariables false

/-- What is wrong with heights, behind one that was the last. -/
def hlc : Int → List Int → Nat
  | _, [] => 0
  | last, x :: l => if x < 0 ∨ 6 < x then 1 else if x ≤ last then 3 else hlc x l
/-- What is wrong with a width and heights on both sides. -/
def phcd (wd : Int) (l m : List Int) : Nat :=
  if wd < 0 ∨ 4 < wd then 1 else if l.length = 0 then 5 else if 3 < l.length then 4 else if m.length ≠ l.length then 3 else if hlc (-1) l = 0 then hlc (-1) m else hlc (-1) l
theorem hlc_le : ∀ (l : List Int) (last : Int), hlc last l ≤ 3
  | [], _ => Nat.zero_le _
  | x :: l, last => by
    unfold hlc
    split
    · omega
    · split
      · omega
      · exact hlc_le l x
theorem phcd_le (wd : Int) (l m : List Int) : phcd wd l m ≤ 5 := by
  have := hlc_le l (-1)
  have := hlc_le m (-1)
  unfold phcd
  repeat' split
  all_goals omega
theorem hlc_drop : ∀ {l : List Int} {k : Nat} (last : Int), k < l.length → hlc last (l.drop k) = if l.getD k 0 < 0 ∨ 6 < l.getD k 0 then 1 else if l.getD k 0 ≤ last then 3 else hlc (l.getD k 0) (l.drop (k + 1))
  | [], k, _, h => absurd h (by simp)
  | x :: l, 0, _, _ => rfl
  | x :: l, k + 1, last, h => hlc_drop (l := l) (k := k) last (by rw [List.length_cons] at h; omega)
/-- Heights without a fault are natural numbers that rise. -/
theorem hlc_zero : ∀ {l : List Int} {last : Int}, hlc last l = 0 → ∃ m : List Nat, l = nz m ∧ Zx.Ris m ∧ ∀ a, m.head? = some a → last < a
  | [], last, _ => ⟨[], rfl, trivial, fun a h => by cases h⟩
  | x :: l, last, h => by
    unfold hlc at h
    by_cases h1 : x < 0 ∨ 6 < x
    · rw [if_pos h1] at h; cases h
    rw [if_neg h1] at h
    by_cases h2 : x ≤ last
    · rw [if_pos h2] at h; cases h
    rw [if_neg h2] at h
    obtain ⟨m, rfl, hr, hh⟩ := hlc_zero h
    obtain ⟨a, rfl⟩ : ∃ a : Nat, x = (a : Int) := ⟨x.toNat, by omega⟩
    refine ⟨a :: m, rfl, ?_, fun b hb => by cases hb; omega⟩
    cases m with
    | nil => show a < 7; omega
    | cons b m => exact ⟨by have := hh b rfl; omega, hr⟩
theorem hlc_ris : ∀ {m : List Nat} {last : Int}, Zx.Ris m → (∀ a, m.head? = some a → last < a) → hlc last (nz m) = 0
  | [], _, _, _ => rfl
  | [a], last, h, hh => by
    have := hh a rfl
    have h7 : a < 7 := h
    show (if (a : Int) < 0 ∨ 6 < (a : Int) then 1 else if (a : Int) ≤ last then 3 else 0) = 0
    rw [if_neg (by omega), if_neg (by omega)]
  | a :: b :: l, last, h, hh => by
    have := hh a rfl
    have h7 := Zx.ris_le (m := a :: b :: l) h 0
    have e : (a :: b :: l).getD 0 0 = a := rfl
    show (if (a : Int) < 0 ∨ 6 < (a : Int) then 1 else if (a : Int) ≤ last then 3 else hlc a (nz (b :: l))) = 0
    rw [if_neg (by omega), if_neg (by omega)]
    exact hlc_ris h.2 fun c hc => by cases hc; have := h.1; omega
/-- A width, and heights on both sides, between which there are families. -/
structure Ph (wd : Nat) (a b : List Nat) (l m : List Int) : Prop where
  w4 : wd ≤ 4
  la : l = nz a
  lb : m = nz b
  a1 : 1 ≤ a.length
  a3 : a.length ≤ 3
  len : b.length = a.length
  ra : Zx.Ris a
  rb : Zx.Ris b
theorem ph_or (wd : Int) (l m : List Int) : (∃ (k : Nat) (a b : List Nat), wd = (k : Int) ∧ Ph k a b l m) ∨ phcd wd l m ≠ 0 := by
  by_cases h : phcd wd l m = 0
  · refine .inl ?_
    unfold phcd at h
    by_cases h1 : wd < 0 ∨ 4 < wd
    · rw [if_pos h1] at h; cases h
    rw [if_neg h1] at h
    by_cases h2 : l.length = 0
    · rw [if_pos h2] at h; cases h
    rw [if_neg h2] at h
    by_cases h3 : 3 < l.length
    · rw [if_pos h3] at h; cases h
    rw [if_neg h3] at h
    by_cases h4 : m.length ≠ l.length
    · rw [if_pos h4] at h; cases h
    rw [if_neg h4] at h
    by_cases h5 : hlc (-1) l = 0
    · rw [if_pos h5] at h
      obtain ⟨a, rfl, ra, _⟩ := hlc_zero h5
      obtain ⟨b, rfl, rb, _⟩ := hlc_zero h
      rw [nz_len] at h2 h3 h4
      rw [nz_len] at h4
      exact ⟨wd.toNat, a, b, by omega, by omega, rfl, rfl, by omega, by omega, by omega, ra, rb⟩
    · rw [if_neg h5] at h; exact absurd h h5
  · exact .inr h
theorem Ph.code {wd : Nat} {a b : List Nat} {l m : List Int} (s : Ph wd a b l m) : phcd wd l m = 0 := by
  have h1 := s.a1
  have h2 := s.a3
  have h3 := s.len
  have h4 := s.w4
  unfold phcd
  rw [if_neg (by omega), s.la, s.lb, nz_len, nz_len, if_neg (by omega), if_neg (by omega), if_neg (by omega),
    hlc_ris s.ra (fun c _ => by omega), if_pos rfl, hlc_ris s.rb (fun c _ => by omega)]

set_option maxHeartbeats 1600000 in
theorem hts_any (A : Option Addr) (l : List Int) (n c : Nat) (w : World) (hl : Lies w A l) (hn : l.length = n) (hn3 : n ≤ 3) :
    Calls Tryd.prog 16 #[.slice A n c] w fun e w' => e = .returned (errOf (hlc (-1) l)) ∧ w = w' := by
  have HL := Lib.hid hl
  have HN := Lib.hid hn
  have DR := Lib.hid (fun (k : Nat) (last : Int) (h : k < l.length) => hlc_drop last h)
  have NIL := Lib.hid (show ∀ last, hlc last (l.drop n) = 0 from fun last => by rw [List.drop_eq_nil_of_le (by omega)]; rfl)
  obtain ⟨z, hz⟩ : ∃ z, z = hlc (-1) l := ⟨_, rfl⟩
  have HZ := Lib.hid (show z = hlc (-1) (l.drop 0) from hz)
  rw [← hz]
  clear hl hn hz
  go_enter Tryd.func16, Tryd.ntmps16
  go_wp2_with fail
  go_loop [3, 8] (fun v i => ∃ (k : Nat) (y : Int), k ≤ n ∧ i = .int .i64 (k : Int) ∧ v = .int .i64 y ∧ z = hlc y (l.drop k)) (fun _ i => n - (intOf i).toNat)
  case atStart => exact ⟨0, -1, Nat.zero_le _, rfl, rfl, HZ.out⟩
  case round =>
    obtain ⟨k, y, hk, rfl, rfl, hg⟩ := hrel
    clear HZ
    by_cases hlt : k < n
    · obtain ⟨ad, rfl, _, hc⟩ := HL.out k (by have := HN.out; omega)
      have hd := DR.out k y (by have := HN.out; omega)
      rw [← hg] at hd
      obtain ⟨m, hm⟩ : ∃ m, m = l.getD k 0 := ⟨_, rfl⟩
      rw [← hm] at hc hd
      clear hm hg
      by_cases h0 : m < 0
      · rw [if_pos (.inl h0)] at hd
        have E := Lib.hid hd
        clear hd
        go_wp2_with fail
        go_ret
        exact ⟨by rw [E.out]; rfl, rfl⟩
      · by_cases h1 : m ≤ 6
        · rw [if_neg (by omega)] at hd
          by_cases h2 : m ≤ y
          · rw [if_pos h2] at hd
            have E := Lib.hid hd
            clear hd
            go_wp2_with fail
            go_ret
            exact ⟨by rw [E.out]; rfl, rfl⟩
          · rw [if_neg h2] at hd
            have E := Lib.hid hd
            clear hd
            go_wp2_with fail
            go_round
            case rel => exact ⟨k + 1, m, by omega, by go_num, rfl, E.out⟩
            case measure => simp [intOf]; omega
        · rw [if_pos (.inr (by omega))] at hd
          have E := Lib.hid hd
          have h2 : 7 ≤ m := by omega
          clear hd h1
          go_wp2_with fail
          go_ret
          exact ⟨by rw [E.out]; rfl, rfl⟩
    · obtain rfl : k = n := by omega
      have E := Lib.hid (hg.trans (NIL.out y))
      clear hg
      go_wp2_with fail
      go_ret
      exact ⟨by rw [E.out]; rfl, rfl⟩

set_option maxHeartbeats 1600000 in
theorem PChk_any (wd : Int) (A B : Option Addr) (l m : List Int) (n q c d : Nat) (w : World) (ha : Lies w A l) (hb : Lies w B m) (hn : l.length = n) (hq : m.length = q) :
    Calls Tryd.prog 7 #[.int .i64 wd, .slice A n c, .slice B q d] w fun e w' => e = .returned (errOf (phcd wd l m)) ∧ w = w' := by
  by_cases h0 : wd < 0
  · have E := Lib.hid (show phcd wd l m = 1 by unfold phcd; rw [if_pos (.inl h0)])
    rw [E.out]
    clear E ha hb hn hq
    go_enter Tryd.func7, Tryd.ntmps7
    go_wp2_with fail
    go_ret
    exact ⟨rfl, rfl⟩
  by_cases h4 : 4 < wd
  · have E := Lib.hid (show phcd wd l m = 1 by unfold phcd; rw [if_pos (.inr h4)])
    rw [E.out]
    clear E ha hb hn hq
    go_enter Tryd.func7, Tryd.ntmps7
    go_wp2_with fail
    go_ret
    exact ⟨rfl, rfl⟩
  have h4' : wd ≤ 4 := by omega
  have E0 := Lib.hid (show phcd wd l m = if n = 0 then 5 else if 3 < n then 4 else if q ≠ n then 3 else if hlc (-1) l = 0 then hlc (-1) m else hlc (-1) l by
    unfold phcd; rw [if_neg (by omega), hn, hq])
  rw [E0.out]
  clear E0 h4
  by_cases h1 : n = 0
  · rw [if_pos h1]
    have e0 : ((n : Int) == 0) = true := by rw [beq_iff_eq]; omega
    clear ha hb hn hq h1
    go_enter Tryd.func7, Tryd.ntmps7
    go_wp2_with fail
    go_ret
    exact ⟨rfl, rfl⟩
  rw [if_neg h1]
  have e0 : ((n : Int) == 0) = false := by rw [beq_eq_false_iff_ne]; omega
  by_cases h2 : 3 < n
  · rw [if_pos h2]
    have h2' : 3 < (n : Int) := by omega
    clear ha hb hn hq h1
    go_enter Tryd.func7, Tryd.ntmps7
    go_wp2_with fail
    go_ret
    exact ⟨rfl, rfl⟩
  rw [if_neg h2]
  by_cases h3 : q ≠ n
  · rw [if_pos h3]
    have e3 : ((q : Int) != (n : Int)) = true := by rw [bne_iff_ne]; omega
    clear ha hb hn hq h1 h3
    go_enter Tryd.func7, Tryd.ntmps7
    go_wp2_with fail
    go_ret
    exact ⟨rfl, rfl⟩
  rw [if_neg h3]
  obtain rfl : q = n := by omega
  have CA := Lib.hid (hts_any A l q c w ha hn (by omega))
  have CB := Lib.hid (hts_any B m q d w hb hq (by omega))
  by_cases h5 : hlc (-1) l = 0
  · rw [if_pos h5]
    rw [h5, errOf_zero] at CA
    have e3 : ((q : Int) != (q : Int)) = false := by simp
    clear ha hb hn hq h1 h3 h5
    go_enter Tryd.func7, Tryd.ntmps7
    go_wp2_with fail
    refine (CA.out).mono ?_; rintro e w' ⟨rfl, rfl⟩
    go_wp2_with fail
    refine (CB.out).mono ?_; rintro e w' ⟨rfl, rfl⟩
    go_wp2_with fail
    go_ret
    exact ⟨rfl, rfl⟩
  · rw [if_neg h5]
    rw [errOf_ne _ h5] at CA ⊢
    have e3 : ((q : Int) != (q : Int)) = false := by simp
    generalize hlc (-1) l = z at *
    clear ha hb hn hq h1 h3 h5 CB
    go_enter Tryd.func7, Tryd.ntmps7
    go_wp2_with fail
    refine (CA.out).mono ?_; rintro e w' ⟨rfl, rfl⟩
    go_wp2_with fail
    go_ret
    exact ⟨rfl, rfl⟩

/-- What is wrong with steps. -/
def stcd (r u : Int) : Nat := if (0 ≤ r ∧ r ≤ 4) ∧ 0 ≤ u ∧ u ≤ 6 then 0 else 1
theorem st_or (r u : Int) : (∃ a b : Nat, r = (a : Int) ∧ u = (b : Int) ∧ a ≤ 4 ∧ b ≤ 6) ∨ stcd r u = 1 := by
  by_cases h : (0 ≤ r ∧ r ≤ 4) ∧ 0 ≤ u ∧ u ≤ 6
  · exact .inl ⟨r.toNat, u.toNat, by omega, by omega, by omega, by omega⟩
  · exact .inr (if_neg h)
theorem stcd_ok {a b : Nat} (ha : a ≤ 4) (hb : b ≤ 6) : stcd a b = 0 := if_pos (by omega)
/-- The numbers of a column: those below k are the next column's. -/
def wcol (t u k : Nat) : List Int := Mx.row 7 fun j => if j ≤ u then (if j < k then Zx.wy (t + 1) j else Zx.wy t j) else 1
theorem wcol_len (t u k : Nat) : (wcol t u k).length = 7 := Mx.len_row _ _
theorem wcol_old {t u k : Nat} (hk : k ≤ u) (hu : u ≤ 6) : (wcol t u k).getD k 0 = Zx.wy t k := by
  unfold wcol
  rw [Mx.row_at _ _ _ (by omega), if_pos hk, if_neg (Nat.lt_irrefl _)]
theorem wcol_new {t u k : Nat} (hk : k < u) (hu : u ≤ 6) : (wcol t u (k + 1)).getD k 0 = Zx.wy (t + 1) k := by
  unfold wcol
  rw [Mx.row_at _ _ _ (by omega), if_pos (by omega), if_pos (by omega)]
theorem wcol_set {t u k : Nat} (hk : k ≤ u) (hu : u ≤ 6) : (wcol t u k).set k (Zx.wy (t + 1) k) = wcol t u (k + 1) := by
  unfold wcol
  rw [Mx.row_set]
  refine Mx.row_ext fun j hj => ?_
  by_cases e : j = k
  · rw [if_pos e, e, if_pos hk, if_pos (by omega)]
  · rw [if_neg e]
    by_cases h1 : j ≤ u
    · rw [if_pos h1, if_pos h1]
      by_cases h2 : j < k
      · rw [if_pos h2, if_pos (by omega)]
      · rw [if_neg h2, if_neg (by omega)]
    · rw [if_neg h1, if_neg h1]
theorem wcol_one (t u : Nat) : wcol t u 0 = wcol t u 1 := Mx.row_ext fun j _ => by
  by_cases e : j = 0
  · rw [e, if_pos (Nat.zero_le _), if_pos (Nat.zero_le _), if_neg (by omega), if_pos (by omega), Zx.wy_up, Zx.wy_up]
  · by_cases h1 : j ≤ u
    · rw [if_pos h1, if_pos h1, if_neg (by omega), if_neg (by omega)]
    · rw [if_neg h1, if_neg h1]
theorem wcol_next (t u : Nat) : wcol t u (u + 1) = wcol (t + 1) u 0 := Mx.row_ext fun j _ => by
  by_cases h1 : j ≤ u
  · rw [if_pos h1, if_pos h1, if_pos (by omega), if_neg (by omega)]
  · rw [if_neg h1, if_neg h1]
theorem wcol_ones (u : Nat) : wcol 0 u 0 = Mx.row 7 fun _ => 1 := Mx.row_ext fun j _ => by
  by_cases h1 : j ≤ u
  · rw [if_pos h1, if_neg (by omega)]; rfl
  · rw [if_neg h1]

theorem wcol_start {t u : Nat} (hu : u ≤ 6) : (wcol t u 0).getD u 0 = Zx.wy t u := by
  unfold wcol
  rw [Mx.row_at _ _ _ (by omega), if_pos (Nat.le_refl _), if_neg (by omega)]

theorem PWay_no (r u : Int) (w : World) (h : stcd r u = 1) :
    Calls Tryd.prog 12 #[.int .i64 r, .int .i64 u] w fun e w' => e = .returned (.tuple #[.int .i64 0, errOf 1]) ∧ w = w' := by
  have h' : ¬ ((0 ≤ r ∧ r ≤ 4) ∧ 0 ≤ u ∧ u ≤ 6) := fun h2 => by unfold stcd at h; rw [if_pos h2] at h; cases h
  clear h
  by_cases h1 : r < 0
  · clear h'
    go_enter Tryd.func12, Tryd.ntmps12
    go_wp2_with fail
    go_ret2
    exact ⟨rfl, rfl⟩
  by_cases h2 : 4 < r
  · clear h'
    go_enter Tryd.func12, Tryd.ntmps12
    go_wp2_with fail
    go_ret2
    exact ⟨rfl, rfl⟩
  by_cases h3 : u < 0
  · clear h'
    go_enter Tryd.func12, Tryd.ntmps12
    go_wp2_with fail
    go_ret2
    exact ⟨rfl, rfl⟩
  have h4 : 6 < u := by omega
  clear h'
  go_enter Tryd.func12, Tryd.ntmps12
  go_wp2_with fail
  go_ret2
  exact ⟨rfl, rfl⟩

theorem info_seven : (Tryd.prog.info? 44).map (·.size) = some 7 := by kernel_rfl
theorem ones_set {k : Nat} (hk : k < 7) : (Mx.row 7 fun j => if j < k then (1 : Int) else 0).set k 1 = Mx.row 7 fun j => if j < k + 1 then (1 : Int) else 0 := by
  rw [Mx.row_set]
  refine Mx.row_ext fun j hj => ?_
  by_cases e : j = k
  · rw [if_pos e, if_pos (by omega)]
  · rw [if_neg e]
    by_cases h2 : j < k
    · rw [if_pos h2, if_pos (by omega)]
    · rw [if_neg h2, if_neg (by omega)]
set_option maxRecDepth 100000 in
set_option maxHeartbeats 3200000 in
theorem PWay_ok (r u : Nat) (w : World) (hr : r ≤ 4) (hu : u ≤ 6) :
    Calls Tryd.prog 12 #[.int .i64 (r : Int), .int .i64 (u : Int)] w fun e w' => e = .returned (.tuple #[.int .i64 (Zx.wy r u), .nilIface]) ∧ Kp w w' := by
  have WB := Lib.hid (fun (t : Nat) (ht : t ≤ r) (k : Nat) (hk : k ≤ u) => Zx.wy_most t (by omega) k (by omega))
  go_enter Tryd.func12, Tryd.ntmps12
  go_wp2_with fail
  go_loopw [24] (fun i wr => ∃ k : Nat, k ≤ 7 ∧ i = .int .i64 (k : Int) ∧ Cl 44 wr w.heap.size (Mx.row 7 fun j => if j < k then 1 else 0) ∧ Kp w wr) (fun i _ => 7 - (intOf i).toNat)
  case atStart => exact ⟨0, Nat.zero_le _, rfl, Cl.made w [0, 0, 0, 0, 0, 0, 0], (Kp.rfl' w).new _⟩
  case round =>
    obtain ⟨k, hk, rfl, hc, hkp⟩ := hrel
    by_cases hlt : k < 7
    · have x1 := hc.cell k (by rw [Mx.len_row]; exact hlt)
      have x2 := hc.free k
      have C2 := Lib.hid (show Cl 44 (wr.setCell ⟨w.heap.size, k, none⟩ (.int .i64 1)) w.heap.size (Mx.row 7 fun j => if j < k + 1 then 1 else 0) by
        have := hc.put k 1
        rwa [ones_set hlt] at this)
      have K2 := Lib.hid (show Kp w (wr.setCell ⟨w.heap.size, k, none⟩ (.int .i64 1)) from hkp.put (Nat.le_refl _) _)
      have hk7 : (k : Int) < 7 := by omega
      generalize (Mx.row 7 fun j => if j < k then (1 : Int) else 0).getD k 0 = y at *
      clear hc hkp
      go_wp2_with fail
      go_roundw
      case rel => exact ⟨k + 1, by omega, by go_num, C2.out, K2.out⟩
      case measure => simp [intOf]; omega
    · have hk7 : k = 7 := by omega
      rw [hk7] at hc
      have hge : 7 ≤ (k : Int) := by omega
      have C0 := Lib.hid (show Cl 44 wr w.heap.size (wcol 0 u 0) by
        rw [wcol_ones, Mx.row_ext (h := fun j => if j < 7 then (1 : Int) else 0) fun j hj => (if_pos hj).symm]; exact hc)
      have K0 := Lib.hid hkp
      obtain ⟨w1, hw1⟩ : ∃ x, x = wr := ⟨_, rfl⟩
      subst hw1
      clear hc hkp hlt hk7 hk
      go_wp2_with fail
      go_loopw [31] (fun i wr => ∃ t : Nat, t ≤ r ∧ i = .int .i64 (t : Int) ∧ Cl 44 wr w.heap.size (wcol t u 0) ∧ Kp w wr) (fun i _ => r - (intOf i).toNat)
      case atStart => exact ⟨0, Nat.zero_le _, rfl, C0.out, K0.out⟩
      case round =>
        obtain ⟨t, ht, rfl, hc, hkp⟩ := hrel
        clear C0 K0
        by_cases hlt : t < r
        · have C1 := Lib.hid hc
          have K1 := Lib.hid hkp
          clear hc hkp
          go_wp2_with fail
          obtain ⟨w2, hw2⟩ : ∃ x, x = wr := ⟨_, rfl⟩
          subst hw2
          go_loopw [8] (fun i wr => ∃ k : Nat, k ≤ u ∧ i = .int .i64 ((k : Int) + 1) ∧ Cl 44 wr w.heap.size (wcol t u (k + 1)) ∧ Kp w wr) (fun i _ => u + 1 - (intOf i).toNat)
          case atStart => exact ⟨0, Nat.zero_le _, rfl, by rw [← wcol_one]; exact C1.out, K1.out⟩
          case round =>
            obtain ⟨k0, hk, rfl, hc, hkp⟩ := hrel
            clear C1 K1
            by_cases hlt2 : k0 < u
            · obtain ⟨k, hkk⟩ : ∃ k, k = k0 + 1 := ⟨_, rfl⟩
              rw [← hkk] at hc
              have x1 := hc.cell k (by rw [wcol_len]; omega)
              have x2 := hc.cell k0 (by rw [wcol_len]; omega)
              have x3 := hc.free k
              rw [wcol_old (by omega) hu] at x1
              rw [hkk, wcol_new hlt2 hu] at x2
              have enx : Zx.wy t k + Zx.wy (t + 1) k0 = Zx.wy (t + 1) k := by rw [hkk]; exact (Zx.wy_next t k0).symm
              have C2 := Lib.hid (show Cl 44 (wr.drew.setCell ⟨w.heap.size, k, none⟩ (.int .i64 (Zx.wy t k + Zx.wy (t + 1) k0))) w.heap.size (wcol t u (k + 1)) by
                have := (hc.keep ((Kp.rfl' wr).drewN 1)).put k (Zx.wy t k + Zx.wy (t + 1) k0)
                rw [enx, wcol_set (by omega) hu] at this
                rw [enx]; exact this)
              have K2 := Lib.hid (show Kp w (wr.drew.setCell ⟨w.heap.size, k, none⟩ (.int .i64 (Zx.wy t k + Zx.wy (t + 1) k0))) from (hkp.drewN 1).put (Nat.le_refl _) _)
              clear enx
              have b1 := WB.out t (by omega) k (by omega)
              have b2 := WB.out (t + 1) (by omega) k0 (by omega)
              generalize Zx.wy t k = x at *
              generalize Zx.wy (t + 1) k0 = y at *
              have e1 : (k0 : Int) + 1 = (k : Int) := by omega
              have e2 : (k : Int) - 1 = (k0 : Int) := by omega
              have hk7 : k < 7 := by omega
              have hk07 : k0 < 7 := by omega
              have hk7' : (k : Int) < 7 := by omega
              have hk07' : (k0 : Int) < 7 := by omega
              have hku : (k : Int) ≤ (u : Int) := by omega
              have hw1 : IntKind.i64.wrap (x + y) = x + y := IntWalk.i64_in _ (by omega)
              have HKK := Lib.hid hkk
              have hwk : IntKind.i64.wrap (k0 : Int) = (k0 : Int) := IntWalk.i64_in _ (by omega)
              clear hc hkp hkk
              rw [e1]
              go_wp2_with fail
              go_still_tail 9, (by kernel_rfl)
              change wpList _ _ _ _ _ wr.drew
              go_wp2_with fail
              go_roundw
              case rel => exact ⟨k, by omega, by go_num, C2.out, K2.out⟩
              case measure => simp [intOf]; omega
            · obtain rfl : k0 = u := by omega
              have C2 := Lib.hid (show Cl 44 wr w.heap.size (wcol (t + 1) k0 0) by rw [← wcol_next]; exact hc)
              have K2 := Lib.hid hkp
              clear hc hkp
              go_wp2_with fail
              go_roundw
              case rel => exact ⟨t + 1, by omega, by go_num, C2.out, K2.out⟩
              case measure => simp [intOf]; omega
        · obtain rfl : t = r := by omega
          have x1 := hc.cell u (by rw [wcol_len]; omega)
          rw [wcol_start hu] at x1
          have K2 := Lib.hid hkp
          have hu7 : (u : Int) < 7 := by omega
          clear hc hkp
          go_wp2_with fail
          go_ret2
          exact ⟨rfl, K2.out⟩

end Go.Proofs.YtolkdbijenbchaaDoor
