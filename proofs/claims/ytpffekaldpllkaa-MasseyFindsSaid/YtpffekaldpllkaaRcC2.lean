/- Contracts of package recur, second part: Row, Term. -/
import Derived.Test.YtpffekaldpllkaaRcC1
import Derived.Test.YtpffekaldpllkaaMtPow
namespace Go.Proofs.Ytpffekaldpllkaa
open Go.ChangeShapes Go.WideShapes Go.ChangeAt Go.RowKit
set_option linter.unusedVariables false

/-- The answer is an error, and no row. -/
def FailsR (c : Nat) (w : World) (e : Ending) (w' : World) : Prop := e = .returned (.tuple #[.slice none 0 0, errOf c]) ∧ Kp w w'
/-- The answer is a row. -/
def GivesR (l : List Int) (w : World) (e : Ending) (w' : World) : Prop := ∃ g, e = .returned (.tuple #[.slice (some ⟨g, 0, none⟩) l.length l.length, .nilIface]) ∧ Row w' g l ∧ w.heap.size ≤ g ∧ Kp w w'

theorem Row_bad (A B : Option Addr) (L S : List Int) (c d : Nat) (m : Int) (w : World) (ha : Lies w A L) (hb : Lies w B S) (h : rcd L S ≠ 0) :
    Calls Try.prog 7 #[.slice A L.length c, .slice B S.length d, .int .i64 m] w fun e w' => FailsR (rcd L S) w e w' := by
  have CK := Lib.hid (rChk_any A B L S c d w ha hb)
  unfold FailsR
  rw [errOf_ne _ h] at CK ⊢
  generalize rcd L S = z at *
  generalize L.length = n at *
  generalize S.length = q at *
  clear ha hb h
  go_enter Try.func7, Try.ntmps7
  go_wp2_with fail
  refine (CK.out).mono ?_; rintro e w' ⟨rfl, rfl⟩
  go_wp2_with fail
  go_ret2
  exact ⟨rfl, Kp.rfl' _⟩
theorem rChk_good {n : Nat} {f s : Nat → Fp.F} (A B : Option Addr) (c d : Nat) (w : World) (ha : Lies w A (rowF n f)) (hb : Lies w B (rowF n s)) (h0 : 0 < n) (h5 : n ≤ 5) :
    Calls Try.prog 19 #[.slice A n c, .slice B n d] w fun e w' => e = .returned .nilIface ∧ w = w' := by
  have h := rChk_any A B (rowF n f) (rowF n s) c d w ha hb
  have hc : rcd (rowF n f) (rowF n s) = 0 := (Rc.mk rfl rfl h0 h5 : Rc n f s _ _).code
  rw [Mx.len_row, Mx.len_row, hc, errOf_zero] at h
  exact h
theorem Row_range (A B : Option Addr) (n c d : Nat) (f s : Nat → Fp.F) (m : Int) (w : World) (ha : Lies w A (rowF n f)) (hb : Lies w B (rowF n s)) (h0 : 0 < n) (h5 : n ≤ 5) (h : ¬ (0 ≤ m ∧ m ≤ 1000)) :
    Calls Try.prog 7 #[.slice A n c, .slice B n d, .int .i64 m] w fun e w' => FailsR 1 w e w' := by
  have CK := Lib.hid (rChk_good A B c d w ha hb h0 h5)
  clear ha hb
  unfold FailsR
  by_cases h1 : m < 0
  · clear h
    go_enter Try.func7, Try.ntmps7
    go_wp2_with fail
    refine (CK.out).mono ?_; rintro e w' ⟨rfl, rfl⟩
    go_wp2_with fail
    go_ret2
    exact ⟨rfl, Kp.rfl' _⟩
  · have h2 : 1000 < m := by omega
    clear h
    go_enter Try.func7, Try.ntmps7
    go_wp2_with fail
    refine (CK.out).mono ?_; rintro e w' ⟨rfl, rfl⟩
    go_wp2_with fail
    go_ret2
    exact ⟨rfl, Kp.rfl' _⟩

set_option maxRecDepth 100000 in
set_option maxHeartbeats 3200000 in
theorem Row_ok (A B : Option Addr) (n c d N : Nat) (f s : Nat → Fp.F) (w : World) (ha : Lies w A (rowF n f)) (hb : Lies w B (rowF n s)) (h0 : 0 < n) (h5 : n ≤ 5) (hN : N ≤ 1000) :
    Calls Try.prog 7 #[.slice A n c, .slice B n d, .int .i64 (N : Int)] w fun e w' => GivesR (rowF N (Mx.sq n f s)) w e w' := by
  have CK := Lib.hid (rChk_good A B c d w ha hb h0 h5)
  have HA := Lib.hid ha
  have HB := Lib.hid hb
  have GO := Lib.hid (Mx.sq_goes n f s h0)
  have ST := Lib.hid (fun j (h : j < n) => Mx.sq_start n f s h)
  obtain ⟨x, hx⟩ : ∃ x, x = Mx.sq n f s := ⟨_, rfl⟩
  rw [← hx] at GO ST ⊢
  obtain ⟨i0, hi, hz0, hz1, hz2⟩ := info_parts int_info
  have n0 : ¬ (N : Int) < 0 := by omega
  have n1 : ¬ (1000 : Int) < (N : Int) := by omega
  clear ha hb hx
  unfold GivesR
  rw [Mx.len_row]
  go_enter Try.func7, Try.ntmps7
  go_wp2_with fail
  refine (CK.out).mono ?_; rintro e w' ⟨rfl, rfl⟩
  go_wp2_with (at_make; refine wpList_make_full _ rfl _ _ 22 rfl w.heap.size 3 i0 (.int .i64 0) 1 Try.underlying22 hi hz0 hz1 _ _ _ _ N rfl rfl rfl rfl (by rw [hz2]; omega) (by unfold maxLen; omega) (Nat.le_refl _) ?_; intro w1 hown hgrow; have hrow : Row w1 w.heap.size (List.replicate N 0) := row_made hown; have hkp : Kp w w1 := (Kp.rfl' w).grown hgrow (by simp) (fun k hk => by cases hk); clear hown hgrow)
  obtain ⟨m, hm⟩ : ∃ m, m = min N n := ⟨_, rfl⟩
  obtain ⟨w2, hrun, hr2, hk2⟩ := copy_part w1 w.heap.size N n d m B (rowF n s) 3 hrow (HB.out.keep hkp) (Mx.len_row _ _).symm hm
  rw [hrun]
  rw [far_start s x hm (fun j hj => ST.out j (by omega))] at hr2
  have hkp2 : Kp w w2 := hk2 _ _ hkp (Nat.le_refl _)
  clear hrun hi hz0 hz1 hz2 CK hrow hkp hk2
  obtain ⟨g, hg⟩ : ∃ g, g = w.heap.size := ⟨_, rfl⟩
  rw [← hg] at hr2 ⊢
  have HG := Lib.hid hg
  have hmN : m ≤ N := by omega
  have HM := Lib.hid (show m < N → n ≤ m by omega)
  clear hg hm
  go_wp2_with fail
  go_loopw [10] (fun i wr => ∃ k : Nat, m ≤ k ∧ k ≤ N ∧ i = .int .i64 (k : Int) ∧ Row wr g (rowF N (far x k)) ∧ Kp w wr) (fun i _ => N - (intOf i).toNat)
  case atStart => exact ⟨m, Nat.le_refl _, hmN, rfl, hr2, hkp2⟩
  case round =>
    clear hr2 hkp2
    obtain ⟨k, hmk, hk, rfl, hr, hkp⟩ := hrel
    have HR := Lib.hid hr
    have HK := Lib.hid hkp
    by_cases hlt : k < N
    · have hnk : n ≤ k := by have := HM.out; omega
      have hl := hr.lies.take k
      rw [far_take x (Nat.le_of_lt hlt)] at hl
      have NX := Lib.hid (rnext_any A (some ⟨g, 0, none⟩) n k c N f x wr (HA.out.keep hkp) hl h5 hnk (by omega))
      rw [← GO.out k hnk] at NX
      have HF := Lib.hid (far_step x hlt)
      have x2 := hr.cell k (by rw [Mx.len_row]; exact hlt)
      have x3 := hr.free k
      obtain ⟨y, hy⟩ : ∃ y, y = ((x k).val : Int) := ⟨_, rfl⟩
      rw [← hy] at NX HF
      clear hr hkp hl hy HM GO ST HA HB
      go_wp2_with fail
      refine (NX.out).mono ?_; rintro e w' ⟨rfl, rfl⟩
      go_wp2_with fail
      go_roundw
      case rel => exact ⟨k + 1, by omega, by omega, by go_num, by rw [← HF.out]; exact HR.out.put k y, HK.out.put (p := ⟨g, k, none⟩) (by show w.heap.size ≤ g; rw [HG.out]; exact Nat.le_refl _) _⟩
      case measure => simp [intOf]; omega
    · obtain rfl : k = N := by omega
      rw [far_all] at HR
      clear hr hkp
      go_wp2_with fail
      go_ret2
      exact ⟨g, rfl, HR.out, by rw [HG.out]; exact Nat.le_refl _, HK.out⟩

/-- The answer is an error, and no number. -/
def FailsT (c : Nat) (w : World) (e : Ending) (w' : World) : Prop := e = .returned (.tuple #[.int .i64 0, errOf c]) ∧ Kp w w'


end Go.Proofs.Ytpffekaldpllkaa
