/- Contracts of package solve, fifth part: Null. -/
import Derived.Test.YtfjajcfcbjmbpaaSoC1
import Derived.Test.YtfjajcfcbjmbpaaIdx
namespace Go.Proofs.Ytfjajcfcbjmbpaa
open Go.ChangeShapes Go.WideShapes Go.ChangeAt Go.RowKit
set_option linter.unusedVariables false

theorem neg_mod (a : Fp.F) : ((9973 : Int) - (a.val : Int)).tmod 9973 = ((-a : Fp.F).val : Int) := by
  have h := sub_mod 0 a
  rw [show (((0 : Fp.F).val : Nat) : Int) = 0 from rfl, show (0 : Int) - (a.val : Int) + 9973 = 9973 - (a.val : Int) by omega] at h
  rw [h]
  have : (0 : Fp.F) - a = -a := by grind
  rw [this]
theorem cols_el (b : List Nat) {k : Nat} (hk : k < b.length) : (cols b).getD k 0 = (Mx.pv b k : Int) := by simp [cols, Mx.pv, hk]
theorem occurs_cols {b : List Nat} {k : Nat} : Occurs (cols b) b.length (k : Int) ↔ k ∈ b := by
  constructor
  · rintro ⟨j, hj, e⟩
    rw [cols_el b hj] at e
    have : Mx.pv b j = k := by omega
    rw [← this]; exact Mx.pv_mem hj
  · intro h
    obtain ⟨t, ht, rfl⟩ := List.mem_iff_getElem.1 h
    exact ⟨t, ht, by rw [cols_el b ht]; simp [Mx.pv, ht]⟩

/-- The rows that are taken to noughts, as far as the first k columns. -/
def nulls (b : List Nat) (g : Nat → Nat → Fp.F) (c k : Nat) : List (List Int) := (Mx.fr b k).map fun q => rowF c (Mx.nv b g q b.length)
theorem nulls_yes {b : List Nat} {g : Nat → Nat → Fp.F} {c k : Nat} (h : k ∈ b) : nulls b g c (k + 1) = nulls b g c k := by unfold nulls; rw [Mx.fr_yes h]
theorem nulls_no {b : List Nat} {g : Nat → Nat → Fp.F} {c k : Nat} (h : k ∉ b) : nulls b g c (k + 1) = nulls b g c k ++ [rowF c (Mx.nv b g k b.length)] := by unfold nulls; rw [Mx.fr_no h]; simp
theorem len_nulls (b : List Nat) (g : Nat → Nat → Fp.F) (c k : Nat) : (nulls b g c k).length = (Mx.fr b k).length := by simp [nulls]
theorem nulls_all (b : List Nat) (g : Nat → Nat → Fp.F) (c : Nat) : nulls b g c c = Mx.matl (Mx.fr b c).length c (Mx.nm b g c) := by
  refine List.ext_getElem (by rw [len_nulls, Mx.len_matl]) fun i h1 h2 => ?_
  have hi : i < (Mx.fr b c).length := by rwa [len_nulls] at h1
  simp [nulls, Mx.matl, Mx.tab, Mx.nm, Mx.pv, hi]

/-- The rows that are taken to noughts. -/
def GotNull (r c : Nat) (f : Nat → Nat → Fp.F) (w : World) (e : Ending) (w' : World) : Prop :=
  ∃ b g A d, Stair r c c f b g ∧ e = .returned (.tuple #[.slice A (Mx.fr b c).length d, .nilIface]) ∧ LiesM w' A (Mx.matl (Mx.fr b c).length c (Mx.nm b g c)) ∧ Kp w w'

set_option maxRecDepth 100000 in
theorem Null_bad (A : Option Addr) (m : List (List Int)) (n d : Nat) (w : World) (ha : LiesM w A m) (hn : m.length = n) (h : Mx.mcode 5 0 9972 m ≠ 0) :
    Calls Try.prog 17 #[.slice A n d] w fun e w' => e = .returned (.tuple #[.slice none 0 0, errOf (Mx.mcode 5 0 9972 m)]) ∧ Kp w w' := by
  have C := Lib.hid (Steps_bad A m n d w ha hn h)
  unfold FailsSteps at C
  rw [errOf_ne _ h] at C ⊢
  generalize Mx.mcode 5 0 9972 m = z at *
  clear ha hn h
  go_enter Try.func17, Try.ntmps17
  go_wp2_with fail
  refine (C.out).mono ?_; rintro e w' ⟨rfl, hk⟩
  have HK := Lib.hid hk
  clear hk
  go_wp2_with fail
  go_ret2
  exact ⟨rfl, HK.out⟩

set_option maxRecDepth 100000 in
set_option maxHeartbeats 6400000 in
theorem Null_ok (A : Option Addr) (f : Nat → Nat → Fp.F) (r c d : Nat) (w : World) (ha : LiesM w A (Mx.matl r c f)) (hr0 : 0 < r) (hr : r ≤ 5) (hc0 : 0 < c) (hc : c ≤ 5) :
    Calls Try.prog 17 #[.slice A r d] w fun e w' => GotNull r c f w e w' := by
  have STP := Lib.hid (Steps_ok A f r c d w ha hr0 hr hc0 hc)
  clear ha
  go_enter Try.func17, Try.ntmps17
  go_wp2_with fail
  refine (STP.out).mono ?_; rintro e w1 ⟨b, g, A1, d1, A2, d2, hs, rfl, l1, l2, k1⟩
  obtain ⟨ad, A0, d0, rfl, hlad, x1, _, l0⟩ := l1.row hr0
  rw [add_zero'] at x1
  have hble := hs.le
  obtain ⟨p, hp⟩ : ∃ p, p = b.length := ⟨_, rfl⟩
  rw [← hp] at hble ⊢
  have HP := Lib.hid hp
  have ST := Lib.hid hs
  have L1 := Lib.hid l1
  have L2 := Lib.hid l2
  have K1 := Lib.hid k1
  have X1 := Lib.hid x1
  have HAD := Lib.hid hlad
  clear hs l1 l2 k1 hp l0 hlad
  go_wp2_with fail
  go_loopw [7, 25] (fun v j wr => ∃ (k : Nat) (G C : Nat → Nat), k ≤ c ∧ j = .int .i64 (k : Int) ∧ OwnM wr w1.heap.size v G C (nulls b g c k) ∧ Kp w1 wr) (fun _ j _ => c - (intOf j).toNat)
  case atStart => exact ⟨0, fun _ => 0, fun _ => 0, Nat.zero_le _, rfl, ownM_none _ _ _ _, Kp.rfl' _⟩
  case round =>
    clear x1
    obtain ⟨k, G, C, hk, rfl, ho, hkp⟩ := hrel
    have HO := Lib.hid ho
    have HK := Lib.hid hkp
    by_cases hlt : k < c
    · have CT := Lib.hid (contains_any A2 (cols b) b.length d2 (k : Int) wr (L2.out.keep hkp) (by rw [len_cols]; exact Nat.le_refl _) (by rw [← HP.out]; omega))
      rw [← HP.out] at CT
      by_cases hkb : k ∈ b
      · have CY := Lib.hid ((CT.out).mono fun e w' h => (⟨tells_yes h.1 (by rw [HP.out]; exact occurs_cols.2 hkb), h.2⟩ : e = .returned (.bool true) ∧ wr = w'))
        have HO2 := Lib.hid (show OwnM wr w1.heap.size u7 G C (nulls b g c (k + 1)) by rw [nulls_yes hkb]; exact ho)
        clear ho hkp hkb
        go_wp2_with fail
        refine (CY.out).mono ?_; rintro e w' ⟨rfl, rfl⟩
        go_wp2_with fail
        go_roundw
        case rel => exact ⟨k + 1, G, C, by omega, by go_num, HO2.out, HK.out⟩
        case measure => simp [intOf]; omega
      · have CN := Lib.hid ((CT.out).mono fun e w' h => (⟨tells_no h.1 (by rw [HP.out]; exact fun h => hkb (occurs_cols.1 h)), h.2⟩ : e = .returned (.bool false) ∧ wr = w'))
        have HKB := Lib.hid hkb
        have x1 := (hkp.cell (p := ad) HAD.out).trans X1.out
        have UN := Lib.hid (unit_any c k wr (by omega) hlt)
        clear ho hkp hkb
        obtain ⟨wo, hwo⟩ : ∃ x, x = wr := ⟨_, rfl⟩
        subst hwo
        go_wp2_with fail
        refine (CN.out).mono ?_; rintro e w' ⟨rfl, rfl⟩
        go_wp2_with fail
        refine (UN.out).mono ?_; rintro e w3 ⟨gu, rfl, hgu, hru, k3⟩
        have HGU := Lib.hid hgu
        have HRU := Lib.hid hru
        have K3 := Lib.hid k3
        clear hgu hru k3 x1
        go_wp2_with fail
        go_loopw [39] (fun j wr => ∃ t : Nat, t ≤ p ∧ j = .int .i64 (t : Int) ∧ Row wr gu (rowF c (Mx.nv b g k t)) ∧ Kp wo wr) (fun j _ => p - (intOf j).toNat)
        case atStart => exact ⟨0, Nat.zero_le _, rfl, HRU.out, K3.out⟩
        case round =>
          obtain ⟨t, ht, rfl, hrow, hkw⟩ := hrel
          by_cases hlt2 : t < p
          · have hkk := HK.out.trans hkw
            obtain ⟨ad2, rfl, _, x2⟩ := (L2.out.keep hkk) t (by rw [len_cols, ← HP.out]; exact hlt2)
            rw [cols_el b (by rw [← HP.out]; exact hlt2)] at x2
            obtain ⟨_, A3, d3, e3, _, x3, _, l3⟩ := (L1.out.keep hkk).row (show t < r by omega)
            obtain rfl := Option.some.inj e3
            obtain ⟨ad4, rfl, _, x4⟩ := l3.el hlt
            have hj := ST.out.steps.lt t (by rw [← HP.out]; exact hlt2)
            have y1 := hrow.cell (Mx.pv b t) (by rw [Mx.len_row]; exact hj)
            have y2 := hrow.free (Mx.pv b t)
            rw [Mx.row_at _ _ _ hj] at y1
            have hm := neg_mod (g t k)
            have hb := gval (g t k)
            obtain ⟨z, hz⟩ : ∃ z, z = ((-(g t k) : Fp.F).val : Int) := ⟨_, rfl⟩
            rw [← hz] at hm
            have HN := Lib.hid (show Row (wr.setCell ⟨gu, Mx.pv b t, none⟩ (.int .i64 z)) gu (rowF c (Mx.nv b g k (t + 1))) from by
              have h := hrow.put (Mx.pv b t) z
              rw [Mx.row_set] at h
              rw [show rowF c (Mx.nv b g k (t + 1)) = Mx.row c fun j => if j = Mx.pv b t then z else ((Mx.nv b g k t j).val : Int) from Mx.row_ext fun j _ => by
                show (((if j = Mx.pv b t then -(g t k) else Mx.nv b g k t j) : Fp.F).val : Int) = _
                by_cases e : j = Mx.pv b t
                · rw [if_pos e, if_pos e, hz]
                · rw [if_neg e, if_neg e]]
              exact h)
            have HKW := Lib.hid (hkw.put (p := ⟨gu, Mx.pv b t, none⟩) HGU.out (.int .i64 z))
            generalize ((Mx.nv b g k t (Mx.pv b t)).val : Int) = old at *
            generalize ((g t k).val : Int) = gv at *
            generalize Mx.pv b t = q at *
            have hws : IntKind.i64.wrap (9973 - gv) = 9973 - gv := IntWalk.i64_in _ (by omega)
            clear hrow hkw hkk l3 hz hb
            go_wp2_with fail
            go_roundw
            case rel => exact ⟨t + 1, by omega, by go_num, HN.out, HKW.out⟩
            case measure => simp [intOf]; omega
          · obtain rfl : t = p := by omega
            have OM := Lib.hid (HO.out.kp hkw)
            have HU := Lib.hid (hrow.own (B := w1.heap.size) (Nat.le_trans HK.out.size HGU.out) (Mx.len_row _ _) (by omega))
            have HAP := Lib.hid (show ∀ i, i < (nulls b g c k).length → G i ≠ gu from fun i hi => by
              have := (HO.out.lt hi).2
              have := HGU.out
              omega)
            have HK3 := Lib.hid (HK.out.trans hkw)
            have HLN := Lib.hid (show (nulls b g c k).length + 1 ≤ 1000000 by rw [len_nulls]; have := Mx.fr_le b k; omega)
            have HNX := Lib.hid (show nulls b g c k ++ [rowF c (Mx.nv b g k t)] = nulls b g c (k + 1) by rw [HP.out, nulls_no HKB.out])
            clear hrow hkw
            go_wp2_with (at_builtin; refine wpList_pushM rfl _ _ rfl w1.heap.size _ G C (nulls b g c k) _ gu c c _ 1 (Mx.len_row _ _) rfl rfl (OM.out.new _) (cell_made _ _ _ _ 0 rfl) (HU.out.new _) HAP.out HLN.out (Nat.le_trans HK3.out.size ((Kp.rfl' _).new _).size) ?_; intro v' w4 G' C' ho4 hk4)
            rw [HNX.out] at ho4
            have HO4 := Lib.hid ho4
            have HK4 := Lib.hid (hk4 w1 (Nat.le_refl _) (HK3.out.new _))
            clear ho4 hk4
            go_wp2_with fail
            go_roundw
            case rel => exact ⟨k + 1, G', C', by omega, by go_num, HO4.out, HK4.out⟩
            case measure => simp [intOf]; omega
    · obtain rfl : k = c := by omega
      obtain ⟨A5, d5, rfl, hl5, _⟩ := ho.lies
      have HL := Lib.hid hl5
      rw [nulls_all] at HL
      have HKK := Lib.hid (K1.out.trans hkp)
      rw [len_nulls]
      clear ho hkp hl5
      go_wp2_with fail
      go_ret2
      exact ⟨b, g, A5, d5, ST.out, rfl, HL.out, HKK.out⟩
end Go.Proofs.Ytfjajcfcbjmbpaa
