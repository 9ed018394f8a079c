/- What package mat and the document's answer say of whatever comes in, by functions of the rows. -/
import Derived.Test.YtbgmbjicidfhlaaDoorMtFact
import Derived.Test.YtbgmbjicidfhlaaDoorMxRef3
import Derived.Test.YtbgmbjicidfhlaaDoorErrG
namespace Go.Proofs.YtbgmbjicidfhlaaDoor
open Go.ChangeShapes Go.WideShapes Go.ChangeAt Go.RowKit
set_option linter.unusedVariables false

def ncol (m : List (List Int)) : Nat := (m.getD 0 []).length
def toF (m : List (List Int)) : Nat → Nat → Fp.F := fun i j => Fp.ofInt ((m.getD i []).getD j 0)
abbrev code (m : List (List Int)) : Nat := Mx.mcode 5 0 9972 m
theorem sh_self {m : List (List Int)} (h : code m = 0) : Sh m.length (ncol m) (toF m) m := by
  obtain ⟨r, c, f, rfl, r0, r5, c0, c5⟩ := Mx.mcode_zero h
  have e1 : (Mx.matl r c f).length = r := Mx.len_matl _ _ _
  have e2 : ncol (Mx.matl r c f) = c := Mx.tab_len _ _ _ _ r0
  rw [e1, e2]
  refine ⟨Mx.matl_ext fun i j hi hj => ?_, r0, r5, c0, c5⟩
  show f i j = Fp.ofInt (((Mx.tab r c fun i j => ((f i j).val : Int)).getD i []).getD j 0)
  rw [Mx.tab_el _ _ _ _ _ hi hj, Fp.ofInt_self]

/-- Turned, added, multiplied, raised, the one; and what is wrong. -/
def fT (a : List (List Int)) : List (List Int) := if code a = 0 then Mx.matl (ncol a) a.length (Mx.flip (toF a)) else []
def cA (a b : List (List Int)) : Nat := if mcode2 a b = 0 then (if a.length = b.length ∧ ncol a = ncol b then 0 else 3) else mcode2 a b
def fA (a b : List (List Int)) : List (List Int) := if cA a b = 0 then Mx.matl a.length (ncol a) (Mx.plus (toF a) (toF b)) else []
def cM (a b : List (List Int)) : Nat := if mcode2 a b = 0 then (if ncol a = b.length then 0 else 3) else mcode2 a b
def fM (a b : List (List Int)) : List (List Int) := if cM a b = 0 then Mx.matl a.length (ncol b) (Mx.mul (ncol a) (toF a) (toF b)) else []
def cS (a : List (List Int)) : Nat := if code a = 0 then (if a.length = ncol a then 0 else 3) else code a
def cP (a : List (List Int)) (n : Int) : Nat := if cS a = 0 then (if 0 ≤ n ∧ n ≤ 1000 then 0 else 1) else cS a
def fP (a : List (List Int)) (n : Int) : List (List Int) := if cP a n = 0 then Mx.matl a.length a.length (Mx.pwm a.length (toF a) n.toNat) else []
def cO (n : Int) : Nat := if 1 ≤ n ∧ n ≤ 5 then 0 else 1
def fO (n : Int) : List (List Int) := if 1 ≤ n ∧ n ≤ 5 then Mx.matl n.toNat n.toNat Mx.one else []

/-- A call that answers these rows and this error. -/
def Says (m : List (List Int)) (c : Nat) (w : World) (e : Ending) (w' : World) : Prop := ∃ A d, e = .returned (.tuple #[.slice A m.length d, errOf c]) ∧ LiesM w' A m ∧ Kp w w'
theorem GivesM.says {m : List (List Int)} {w w' : World} {e : Ending} (h : GivesM m w e w') : Says m 0 w e w' := by
  obtain ⟨A, d, he, _, hl, hk⟩ := h
  exact ⟨A, d, he, hl, hk⟩
theorem FailsM.says {c : Nat} {w w' : World} {e : Ending} (h : FailsM c w e w') : Says [] c w e w' := ⟨none, 0, h.1, LiesM.empty _ _, h.2⟩

theorem Sh.mat_of {r c : Nat} {f : Nat → Nat → Fp.F} {m : List (List Int)} (h : Sh r c f m) {w : World} {A : Option Addr} (hl : LiesM w A m) : LiesM w A (Mx.matl r c f) := by rw [← h.eq]; exact hl

theorem Turn_says (A : Option Addr) (a : List (List Int)) (d : Nat) (w : World) (ha : LiesM w A a) : Calls Tryd.prog 8 #[.slice A a.length d] w fun e w' => Says (fT a) (code a) w e w' := by
  by_cases h : code a = 0
  · have s := sh_self h
    unfold fT
    rw [if_pos h, h]
    exact (Turn_ok A (toF a) a.length (ncol a) d w (s.mat_of ha) s.r0 s.r5 s.c0 s.c5).mono fun _ _ h => h.says
  · unfold fT
    rw [if_neg h]
    exact (Turn_bad A a a.length d w ha rfl h).mono fun _ _ h => h.says
theorem Add_says (A B : Option Addr) (a b : List (List Int)) (c d : Nat) (w : World) (ha : LiesM w A a) (hb : LiesM w B b) :
    Calls Tryd.prog 11 #[.slice A a.length c, .slice B b.length d] w fun e w' => Says (fA a b) (cA a b) w e w' := by
  by_cases h : mcode2 a b = 0
  · obtain ⟨h1, h2⟩ := mcode2_zero h
    have s := sh_self h1
    have t := sh_self h2
    by_cases hs : a.length = b.length ∧ ncol a = ncol b
    · have hc : cA a b = 0 := by unfold cA; rw [if_pos h, if_pos hs]
      unfold fA
      rw [if_pos hc, hc, ← hs.1]
      rw [← hs.1, ← hs.2] at t
      exact (Add_ok A B (toF a) (toF b) a.length (ncol a) c d w (s.mat_of ha) (t.mat_of hb) s.r0 s.r5 s.c0 s.c5).mono fun _ _ h => h.says
    · have hc : cA a b = 3 := by unfold cA; rw [if_pos h, if_neg hs]
      unfold fA
      rw [hc, if_neg (by decide)]
      exact (Add_shape A B (toF a) (toF b) a.length (ncol a) b.length (ncol b) c d w (s.mat_of ha) (t.mat_of hb) s.r0 s.r5 s.c0 s.c5 t.r0 t.r5 t.c0 t.c5 hs).mono fun _ _ h => h.says
  · have hc : cA a b = mcode2 a b := by unfold cA; rw [if_neg h]
    unfold fA
    rw [hc, if_neg h]
    exact (Add_bad A B a b a.length b.length c d w ha hb rfl rfl h).mono fun _ _ h => h.says
theorem Mul_says (A B : Option Addr) (a b : List (List Int)) (c d : Nat) (w : World) (ha : LiesM w A a) (hb : LiesM w B b) :
    Calls Tryd.prog 13 #[.slice A a.length c, .slice B b.length d] w fun e w' => Says (fM a b) (cM a b) w e w' := by
  by_cases h : mcode2 a b = 0
  · obtain ⟨h1, h2⟩ := mcode2_zero h
    have s := sh_self h1
    have t := sh_self h2
    by_cases hs : ncol a = b.length
    · have hc : cM a b = 0 := by unfold cM; rw [if_pos h, if_pos hs]
      unfold fM
      rw [if_pos hc, hc]
      rw [← hs] at t ⊢
      exact (Mul_ok A B (toF a) (toF b) a.length (ncol a) (ncol b) c d w (s.mat_of ha) (t.mat_of hb) s.r0 s.r5 s.c0 s.c5 t.c0 t.c5).mono fun _ _ h => h.says
    · have hc : cM a b = 3 := by unfold cM; rw [if_pos h, if_neg hs]
      unfold fM
      rw [hc, if_neg (by decide)]
      exact (Mul_shape A B (toF a) (toF b) a.length (ncol a) b.length (ncol b) c d w (s.mat_of ha) (t.mat_of hb) s.r0 s.r5 t.c0 t.c5 s.c0 s.c5 t.r0 t.r5 hs).mono fun _ _ h => h.says
  · have hc : cM a b = mcode2 a b := by unfold cM; rw [if_neg h]
    unfold fM
    rw [hc, if_neg h]
    exact (Mul_bad A B a b a.length b.length c d w ha hb rfl rfl h).mono fun _ _ h => h.says
theorem Pow_says (A : Option Addr) (a : List (List Int)) (d : Nat) (n : Int) (w : World) (ha : LiesM w A a) :
    Calls Tryd.prog 16 #[.slice A a.length d, .int .i64 n] w fun e w' => Says (fP a n) (cP a n) w e w' := by
  by_cases h : code a = 0
  · have s := sh_self h
    by_cases hs : a.length = ncol a
    · have hS : cS a = 0 := by unfold cS; rw [if_pos h, if_pos hs]
      rw [← hs] at s
      by_cases hn : 0 ≤ n ∧ n ≤ 1000
      · have hc : cP a n = 0 := by unfold cP; rw [if_pos hS, if_pos hn]
        obtain ⟨k, rfl⟩ := Int.eq_ofNat_of_zero_le hn.1
        unfold fP
        rw [if_pos hc, hc]
        exact (Pow_ok A (toF a) a.length d k w (s.mat_of ha) s.r0 s.r5 (by omega)).mono fun _ _ h => h.says
      · have hc : cP a n = 1 := by unfold cP; rw [if_pos hS, if_neg hn]
        unfold fP
        rw [hc, if_neg (by decide)]
        exact (Pow_range A (toF a) a.length d n w (s.mat_of ha) s.r0 s.r5 hn).mono fun _ _ h => h.says
    · have hS : cS a = 3 := by unfold cS; rw [if_pos h, if_neg hs]
      have hc : cP a n = 3 := by unfold cP; rw [hS, if_neg (by decide)]
      unfold fP
      rw [hc, if_neg (by decide)]
      exact (Pow_shape A (toF a) a.length (ncol a) d n w (s.mat_of ha) s.r0 s.r5 s.c0 s.c5 hs).mono fun _ _ h => h.says
  · have hS : cS a = code a := by unfold cS; rw [if_neg h]
    have hc : cP a n = code a := by unfold cP; rw [hS, if_neg h]
    unfold fP
    rw [hc, if_neg h]
    exact (Pow_bad A a a.length d n w ha rfl h).mono fun _ _ h => h.says
theorem One_says (n : Int) (w : World) : Calls Tryd.prog 17 #[.int .i64 n] w fun e w' => Says (fO n) (cO n) w e w' := by
  by_cases h : 1 ≤ n ∧ n ≤ 5
  · obtain ⟨k, rfl⟩ := Int.eq_ofNat_of_zero_le (show 0 ≤ n by omega)
    unfold fO cO
    rw [if_pos h, if_pos h]
    exact (One_ok k w (by omega) (by omega)).mono fun _ _ h => h.says
  · unfold fO cO
    rw [if_neg h, if_neg h]
    exact (One_bad n w h).mono fun _ _ h => h.says

theorem code_le (a : List (List Int)) : code a ≤ 100 := Nat.le_trans (Mx.mcode_le _ _ _ _) (by decide)
theorem mcode2_le (a b : List (List Int)) : mcode2 a b ≤ 100 := by unfold mcode2; split <;> exact code_le _
theorem cA_le (a b : List (List Int)) : cA a b ≤ 100 := by unfold cA; split; (split <;> decide); exact mcode2_le a b
theorem cM_le (a b : List (List Int)) : cM a b ≤ 100 := by unfold cM; split; (split <;> decide); exact mcode2_le a b
theorem cS_le (a : List (List Int)) : cS a ≤ 100 := by unfold cS; split; (split <;> decide); exact code_le a
theorem cP_le (a : List (List Int)) (n : Int) : cP a n ≤ 100 := by unfold cP; split; (split <;> decide); exact cS_le a
theorem cO_le (n : Int) : cO n ≤ 100 := by unfold cO; split <;> decide
theorem modest_matl {r c : Nat} (f : Nat → Nat → Fp.F) (hr : r ≤ 1000000) (hc : c ≤ 1000000) : Modest (Mx.matl r c f) := modest_tab _ hr hc
theorem fT_modest (a : List (List Int)) : Modest (fT a) := by
  unfold fT
  by_cases h : code a = 0
  · rw [if_pos h]; have s := sh_self h; exact modest_matl _ (Nat.le_trans s.c5 (by decide)) (Nat.le_trans s.r5 (by decide))
  · rw [if_neg h]; exact modest_nil
theorem cA_zero {a b : List (List Int)} (h : cA a b = 0) : mcode2 a b = 0 ∧ a.length = b.length ∧ ncol a = ncol b := by
  unfold cA at h
  by_cases h1 : mcode2 a b = 0
  · rw [if_pos h1] at h
    by_cases h2 : a.length = b.length ∧ ncol a = ncol b
    · exact ⟨h1, h2⟩
    · rw [if_neg h2] at h; cases h
  · rw [if_neg h1] at h; exact absurd h h1
theorem cM_zero {a b : List (List Int)} (h : cM a b = 0) : mcode2 a b = 0 ∧ ncol a = b.length := by
  unfold cM at h
  by_cases h1 : mcode2 a b = 0
  · rw [if_pos h1] at h
    by_cases h2 : ncol a = b.length
    · exact ⟨h1, h2⟩
    · rw [if_neg h2] at h; cases h
  · rw [if_neg h1] at h; exact absurd h h1
theorem cS_zero {a : List (List Int)} (h : cS a = 0) : code a = 0 ∧ a.length = ncol a := by
  unfold cS at h
  by_cases h1 : code a = 0
  · rw [if_pos h1] at h
    by_cases h2 : a.length = ncol a
    · exact ⟨h1, h2⟩
    · rw [if_neg h2] at h; cases h
  · rw [if_neg h1] at h; exact absurd h h1
theorem cP_zero {a : List (List Int)} {n : Int} (h : cP a n = 0) : cS a = 0 ∧ 0 ≤ n ∧ n ≤ 1000 := by
  unfold cP at h
  by_cases h1 : cS a = 0
  · rw [if_pos h1] at h
    by_cases h2 : 0 ≤ n ∧ n ≤ 1000
    · exact ⟨h1, h2⟩
    · rw [if_neg h2] at h; cases h
  · rw [if_neg h1] at h; exact absurd h h1
theorem fA_modest (a b : List (List Int)) : Modest (fA a b) := by
  unfold fA
  by_cases h : cA a b = 0
  · rw [if_pos h]; have s := sh_self (mcode2_zero (cA_zero h).1).1; exact modest_matl _ (Nat.le_trans s.r5 (by decide)) (Nat.le_trans s.c5 (by decide))
  · rw [if_neg h]; exact modest_nil
theorem fM_modest (a b : List (List Int)) : Modest (fM a b) := by
  unfold fM
  by_cases h : cM a b = 0
  · rw [if_pos h]
    have s := sh_self (mcode2_zero (cM_zero h).1).1
    have t := sh_self (mcode2_zero (cM_zero h).1).2
    exact modest_matl _ (Nat.le_trans s.r5 (by decide)) (Nat.le_trans t.c5 (by decide))
  · rw [if_neg h]; exact modest_nil
theorem fP_modest (a : List (List Int)) (n : Int) : Modest (fP a n) := by
  unfold fP
  by_cases h : cP a n = 0
  · rw [if_pos h]; have s := sh_self (cS_zero (cP_zero h).1).1; exact modest_matl _ (Nat.le_trans s.r5 (by decide)) (Nat.le_trans s.r5 (by decide))
  · rw [if_neg h]; exact modest_nil
theorem fO_modest (n : Int) : Modest (fO n) := by
  unfold fO
  by_cases h : 1 ≤ n ∧ n ≤ 5
  · rw [if_pos h]; exact modest_matl _ (by omega) (by omega)
  · rw [if_neg h]; exact modest_nil
/-- Two that read as the same rows are the same. -/
theorem rows_twice (A B : Option Addr) (m : List (List Int)) (c d : Nat) (w : World) (ha : LiesM w A m) (hb : LiesM w B m) (hm : Modest m) :
    Calls Tryd.prog 9 #[.slice A m.length c, .slice B m.length d] w fun e w' => e = .returned (.bool true) ∧ Kp w w' :=
  rows_eq A B m m _ _ c d w ha hb rfl rfl hm hm rfl

end Go.Proofs.YtbgmbjicidfhlaaDoor
