/- Contracts of package smith, fifth part: Parts, Index. -/
import Derived.Test.YtlnehhhlpdaebaaSmC4
namespace Go.Proofs.Ytlnehhhlpdaebaa
open Go.ChangeShapes Go.WideShapes Go.ChangeAt Go.RowKit Go.Shelf
set_option linter.unusedVariables false

theorem Parts_no (A : Option Addr) (m : List (List Int)) (n d : Nat) (w : World) (ha : LiesM w A m) (hn : m.length = n) (h : hcd m ≠ 0) :
    Calls Try.prog 39 #[.slice A n d] w fun e w' => e = .returned (.tuple #[.slice none 0 0, errOf (hcd m)]) ∧ Kp w w' := by
  have hc := HCheck_any A m n d w ha hn
  rw [errOf_ne _ h] at hc ⊢
  have C := Lib.hid hc
  clear ha hn h hc
  generalize hcd m = z at *
  go_enter Try.func39, Try.ntmps39
  go_wp2_with fail
  refine (C.out).mono ?_; rintro e w' ⟨rfl, hk⟩
  have HK := Lib.hid hk
  clear hk
  go_wp2_with fail
  go_ret2
  exact ⟨rfl, HK.out⟩
theorem Index_no (A : Option Addr) (m : List (List Int)) (n d : Nat) (w : World) (ha : LiesM w A m) (hn : m.length = n) (h : hcd m ≠ 0) :
    Calls Try.prog 19 #[.slice A n d] w fun e w' => e = .returned (.tuple #[.int .i64 0, errOf (hcd m)]) ∧ Kp w w' := by
  have hc := Parts_no A m n d w ha hn h
  rw [errOf_ne _ h] at hc ⊢
  have C := Lib.hid hc
  clear ha hn h hc
  generalize hcd m = z at *
  go_enter Try.func19, Try.ntmps19
  go_wp2_with fail
  refine (C.out).mono ?_; rintro e w' ⟨rfl, hk⟩
  have HK := Lib.hid hk
  clear hk
  go_wp2_with fail
  go_ret2
  exact ⟨rfl, HK.out⟩

/-- The parts, in memory of the call's own. -/
def GotP (n : Nat) (x : Nat → Nat → Int) (w : World) (e : Ending) (w' : World) : Prop :=
  ∃ g, e = .returned (.tuple #[.slice (some ⟨g, 0, none⟩) n n, .nilIface]) ∧ Row w' g (Zx.spp n x) ∧ w.heap.size ≤ g ∧ Kp w w'
theorem quo_nat (a b : Nat) (h : a ≤ 1000000000000000000) : wrap64 ((a : Int) / (b : Int)) = ((a / b : Nat) : Int) := by
  rw [← Int.natCast_ediv]
  have := Nat.div_le_self a b
  generalize a / b = q at *
  exact wrap64_id ⟨by omega, by omega⟩

set_option maxRecDepth 100000 in
set_option maxHeartbeats 3200000 in
theorem Parts_ok {n : Nat} {x : Nat → Nat → Int} {m : List (List Int)} (s : Hm n x m) (A : Option Addr) (d : Nat) (w : World) (ha : LiesM w A m) :
    Calls Try.prog 39 #[.slice A n d] w fun e w' => GotP n x w e w' := by
  have n0 := s.sh.n0
  have n3 := s.sh.n3
  have hf : ∀ i j, i < n → j < n → (x i j).natAbs ≤ 20 := fun i j hi hj => by have := s.sh.ab i j hi hj; omega
  have hc := HCheck_any A m n d w ha s.sh.len
  rw [s.code, errOf_zero] at hc
  have C := Lib.hid hc
  have HA := Lib.hid (show LiesM w A (Mx.tab n n x) by rw [← s.sh.eq]; exact ha)
  have DV := Lib.hid (fun (k : Nat) (hk : k < n) (w' : World) (kw : Kp w w') (B0 B1 : Nat) (c0 : w'.cell? ⟨B0, 0, none⟩ = some (.slice A n d)) (c1 : w'.cell? ⟨B1, 0, none⟩ = some (.int .i64 ((k + 1 : Nat) : Int))) =>
    divisor_all B0 B1 n d (k + 1) A x hf n3 (by omega) (by omega) w HA.out w' kw c0 c1)
  have PP := Lib.hid (fun k (hk : k ≤ n) => Zx.pv_pos n3 s.ne hk)
  have PL := Lib.hid (fun k (hk : k ≤ n) => Zx.pv_le hf n3 (show k ≤ 3 by omega))
  have PS := Lib.hid (fun k => Zx.pv_succ n x k)
  have SP := Lib.hid (Zx.pv_spp x n0 n3)
  clear hc ha s hf
  obtain ⟨i0, hi, hz0, hz1, hz2⟩ := info_parts int_info
  go_enter Try.func39, Try.ntmps39
  go_wp2_with fail
  refine (C.out).mono ?_; rintro e w' ⟨rfl, hk⟩
  have HK := Lib.hid hk
  have hsz := hk.size
  clear hk C
  go_wp2_with (at_make; refine wpList_make_full _ rfl _ _ 39 rfl w'.heap.size 3 i0 (.int .i64 0) 1 Try.underlying39 hi hz0 hz1 _ _ _ _ n rfl rfl rfl rfl (by rw [hz2]; omega) (by unfold maxLen; omega) (Nat.le_refl _) ?_; intro w1 hown hgrow)
  have R1 := Lib.hid (show Row w1 w'.heap.size (Mx.row n fun j => if j < 0 then ((Zx.pv n x (j + 1) / Zx.pv n x j : Nat) : Int) else 0) by
    rw [show (Mx.row n fun j => if j < 0 then ((Zx.pv n x (j + 1) / Zx.pv n x j : Nat) : Int) else 0) = List.replicate n 0 by
      rw [show (fun j => if j < 0 then ((Zx.pv n x (j + 1) / Zx.pv n x j : Nat) : Int) else 0) = fun _ => (0 : Int) from funext fun j => by rw [if_neg (by omega)]]
      unfold Mx.row; simp [List.map_const']]
    exact row_made hown)
  have K1 := Lib.hid ((show Kp w' w1 from (Kp.rfl' w').grown hgrow (by simp) (fun k hk => by cases hk)))
  have g0 := hsz
  obtain ⟨g, hg⟩ : ∃ g, g = w'.heap.size := ⟨_, rfl⟩
  rw [← hg] at R1 g0 ⊢
  have KW := Lib.hid (HK.out.trans K1.out)
  clear hown hgrow hi hz0 hz1 hz2 hg hsz K1 HK
  go_wp2_with fail
  go_loopw [6, 7, 8, 9, 20] (fun b _ _ _ i wr => ∃ k : Nat, k ≤ n ∧ i = .int .i64 (k : Int) ∧ b = .int .i64 (Zx.pv n x k : Int) ∧ Row wr g (Mx.row n fun j => if j < k then ((Zx.pv n x (j + 1) / Zx.pv n x j : Nat) : Int) else 0) ∧ Kp w wr) (fun _ _ _ _ i _ => n - (intOf i).toNat)
  case atStart => exact ⟨0, Nat.zero_le _, rfl, rfl, R1.out, KW.out⟩
  case round =>
    clear R1 KW
    obtain ⟨k, hk, rfl, rfl, hr, hkp⟩ := hrel
    have HR := Lib.hid hr
    have HK := Lib.hid hkp
    by_cases hlt : k < n
    · have NX := Lib.hid (fun (wz : World) (h : Row wz g (Mx.row n fun j => if j < k then ((Zx.pv n x (j + 1) / Zx.pv n x j : Nat) : Int) else 0)) => (show Row (wz.setCell ⟨g, k, none⟩ (.int .i64 ((Zx.pv n x (k + 1) / Zx.pv n x k : Nat) : Int))) g (Mx.row n fun j => if j < k + 1 then ((Zx.pv n x (j + 1) / Zx.pv n x j : Nat) : Int) else 0) from by
        have := h.put k ((Zx.pv n x (k + 1) / Zx.pv n x k : Nat) : Int)
        rw [Mx.row_set] at this
        rwa [show (Mx.row n fun j => if j < k + 1 then ((Zx.pv n x (j + 1) / Zx.pv n x j : Nat) : Int) else 0) = Mx.row n fun j => if j = k then ((Zx.pv n x (k + 1) / Zx.pv n x k : Nat) : Int) else if j < k then ((Zx.pv n x (j + 1) / Zx.pv n x j : Nat) : Int) else 0 from Mx.row_ext fun j _ => by
          by_cases e : j = k
          · subst e; rw [if_pos rfl, if_pos (by omega)]
          · rw [if_neg e]
            by_cases h : j < k
            · rw [if_pos h, if_pos (by omega)]
            · rw [if_neg h, if_neg (by omega)]]))
      have DK := Lib.hid (DV.out k hlt)
      have p0 := PP.out k hk
      have p1 := PL.out (k + 1) hlt
      have QN := quo_nat (Zx.pv n x (k + 1)) (Zx.pv n x k) (by omega)
      have pe := PS.out k
      rw [← pe] at DK
      have CELL := Lib.hid (fun (wz : World) (kz : Kp wr wz) => (show wz.cell? ⟨g, k, none⟩ = some (.int .i64 0) ∧ wz.frozen? ⟨g, k, none⟩ = false from by
        have h := HR.out.keep kz
        refine ⟨?_, h.free k⟩
        have := h.cell k (by rw [Mx.len_row]; exact hlt)
        rwa [Mx.row_at _ _ _ hlt, if_neg (by omega)] at this))
      obtain ⟨pr, hpr⟩ : ∃ pr, pr = Zx.pv n x (k + 1) := ⟨_, rfl⟩
      rw [← hpr] at NX DK p1 QN pe
      have HPR := Lib.hid hpr
      clear hpr
      generalize Zx.pv n x k = bf at *
      have q0 : ((bf : Int) == 0) = false := by rw [beq_eq_false_iff_ne]; omega
      have q1 : (bf : Int) ≠ 0 := by omega
      have hw1 : IntKind.i64.wrap ((k : Int) + 1) = ((k + 1 : Nat) : Int) := by rw [Int.natCast_add]; exact IntWalk.i64_in _ (by omega)
      clear hr hkp p0 p1 pe
      go_wp2_with fail
      refine (minors_any _ _ _ _ _).mono ?_; rintro e w2 ⟨rfl, hw2⟩
      have k2 : Kp wr w2 := by rw [hw2]; exact ((Kp.rfl' wr).new _).new _
      have v0 : w2.cell? ⟨wr.heap.size, 0, none⟩ = some (.slice A n d) := by
        rw [hw2]; exact (((Kp.rfl' _).new _).cell (p := ⟨wr.heap.size, 0, none⟩) (by simp)).trans ((cell_made wr _ _ wr.heap.size 0 rfl).trans rfl)
      have v1 : w2.cell? ⟨wr.heap.size + 1, 0, none⟩ = some (.int .i64 ((k + 1 : Nat) : Int)) := by
        rw [hw2]; exact (cell_made _ _ _ (wr.heap.size + 1) 0 (by simp)).trans rfl
      have D2 := Lib.hid (DK.out w2 (HK.out.trans k2) wr.heap.size (wr.heap.size + 1) v0 v1)
      have K2 := Lib.hid k2
      clear hw2 k2 v0 v1
      go_wp2_with fail
      refine (D2.out).mono ?_; rintro e w3 ⟨rfl, k3⟩
      have K3 := Lib.hid (K2.out.trans k3)
      obtain ⟨x1, x2⟩ := CELL.out w3 K3.out
      clear k3
      go_wp2_with fail
      go_roundw
      case rel => exact ⟨k + 1, by omega, by go_num, by rw [HPR.out], NX.out w3 (HR.out.keep K3.out), (HK.out.trans K3.out).put (p := ⟨g, k, none⟩) (by show w.heap.size ≤ g; exact g0) _⟩
      case measure => simp [intOf]; omega
    · obtain rfl : n = k := by omega
      have FR := Lib.hid (show Row wr g (Zx.spp n x) by
        rw [← SP.out, show (Mx.row n fun k => ((Zx.pv n x (k + 1) / Zx.pv n x k : Nat) : Int)) = Mx.row n fun j => if j < n then ((Zx.pv n x (j + 1) / Zx.pv n x j : Nat) : Int) else 0 from Mx.row_ext fun j hj => by rw [if_pos hj]]
        exact hr)
      clear hr hkp HR
      go_wp2_with fail
      go_ret2
      exact ⟨g, rfl, FR.out, g0, HK.out⟩
theorem prz_pos {g : Nat → Int} : ∀ {k : Nat}, (∀ i, i < k → 1 ≤ g i) → 1 ≤ Zx.pr k g
  | 0, _ => Int.le_refl _
  | k + 1, h => by
    have h1 := prz_pos fun i hi => h i (Nat.lt_succ_of_lt hi)
    have h2 := h k (Nat.lt_succ_self k)
    show 1 ≤ Zx.pr k g * g k
    have := Int.mul_le_mul h1 h2 (by omega) (by omega)
    omega
theorem prz_le {g : Nat → Int} {k : Nat} : ∀ (j : Nat), (∀ i, i < k + j → 1 ≤ g i) → Zx.pr k g ≤ Zx.pr (k + j) g
  | 0, _ => Int.le_refl _
  | j + 1, h => by
    have h1 := prz_le (k := k) j fun i hi => h i (by omega)
    have h0 := prz_pos (k := k + j) fun i hi => h i (by omega)
    have h2 := h (k + j) (by omega)
    refine Int.le_trans h1 ?_
    show Zx.pr (k + j) g ≤ Zx.pr (k + j) g * g (k + j)
    have := Int.mul_le_mul (Int.le_refl (Zx.pr (k + j) g)) h2 (by omega) (by omega)
    omega

set_option maxRecDepth 100000 in
set_option maxHeartbeats 1600000 in
theorem Index_ok {n : Nat} {x : Nat → Nat → Int} {m : List (List Int)} (s : Hm n x m) (A : Option Addr) (d : Nat) (w : World) (ha : LiesM w A m) :
    Calls Try.prog 19 #[.slice A n d] w fun e w' => e = .returned (.tuple #[.int .i64 ((Zx.dt n x).natAbs : Int), .nilIface]) ∧ Kp w w' := by
  have PT := Zx.spp_pts s.sh.n0 s.sh.n3 s.ne
  have n3 := s.sh.n3
  have C := Lib.hid (Parts_ok s A d w ha)
  have TW := Zx.dt_twenty s.sh.n3 s.sh.small
  obtain ⟨D, hD⟩ : ∃ D : Nat, D = (Zx.dt n x).natAbs := ⟨_, rfl⟩
  have PR := PT.prod
  rw [← hD] at PR ⊢
  have D5 : D ≤ 48000 := by rw [hD]; unfold Zx.ab at TW; omega
  have BD := Lib.hid (fun k (hk : k ≤ n) => (show 1 ≤ Zx.pr k (fun i => (Zx.spp n x).getD i 0) ∧ Zx.pr k (fun i => (Zx.spp n x).getD i 0) ≤ 48000 from by
    refine ⟨prz_pos fun i hi => PT.pos i (by omega), ?_⟩
    have := prz_le (g := fun i => (Zx.spp n x).getD i 0) (k := k) (n - k) fun i hi => PT.pos i (by omega)
    rw [show k + (n - k) = n by omega, PR] at this
    omega))
  have LN := Lib.hid PT.len
  have PRD := Lib.hid PR
  have STP := Lib.hid (fun k => (show Zx.pr (k + 1) (fun i => (Zx.spp n x).getD i 0) = Zx.pr k (fun i => (Zx.spp n x).getD i 0) * (Zx.spp n x).getD k 0 from rfl))
  obtain ⟨P, hP⟩ : ∃ P : Nat → Int, P = fun k => Zx.pr k (fun i => (Zx.spp n x).getD i 0) := ⟨_, rfl⟩
  have P0 := Lib.hid (show P 0 = 1 by rw [hP]; rfl)
  have BD' := Lib.hid (show ∀ k, k ≤ n → 1 ≤ P k ∧ P k ≤ 48000 by rw [hP]; exact BD.out)
  have STP' := Lib.hid (show ∀ k, P (k + 1) = P k * (Zx.spp n x).getD k 0 by rw [hP]; exact STP.out)
  have PRD' := Lib.hid (show P n = (D : Int) by rw [hP]; exact PRD.out)
  clear PT TW PR ha s hD D5 BD STP PRD hP
  go_enter Try.func19, Try.ntmps19
  go_wp2_with fail
  refine (C.out).mono ?_; rintro e w1 ⟨g, rfl, hr, hg, hk⟩
  have HR := Lib.hid hr
  have HK := Lib.hid hk
  clear hr hk C
  go_wp2_with fail
  go_loop [6, 8, 19] (fun v _ i => ∃ k : Nat, k ≤ n ∧ i = .int .i64 (k : Int) ∧ v = .int .i64 (P k)) (fun _ _ i => n - (intOf i).toNat)
  case atStart => exact ⟨0, Nat.zero_le _, rfl, by rw [P0.out]⟩
  case round =>
    obtain ⟨k, hk, rfl, rfl⟩ := hrel
    by_cases hlt : k < n
    · have x1 := HR.out.cell k (by rw [LN.out]; exact hlt)
      have b1 := BD'.out (k + 1) hlt
      have ST := Lib.hid (STP'.out k)
      rw [STP'.out k] at b1
      generalize (Zx.spp n x).getD k 0 = y at *
      have hw1 : IntKind.i64.wrap (P k * y) = P k * y := IntWalk.i64_in _ (by omega)
      clear b1
      go_wp2_with fail
      go_round
      case rel => exact ⟨k + 1, by omega, by go_num, by rw [ST.out]⟩
      case measure => simp [intOf]; omega
    · obtain rfl : n = k := by omega
      go_wp2_with fail
      go_ret2
      exact ⟨by rw [← PRD'.out]; rfl, HK.out⟩
end Go.Proofs.Ytlnehhhlpdaebaa
