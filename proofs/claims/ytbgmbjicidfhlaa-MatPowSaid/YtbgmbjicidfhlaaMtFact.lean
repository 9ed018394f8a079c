/- The closed fact of package mat, outright; and what its functions say of whatever comes in. -/
import Derived.Test.YtbgmbjicidfhlaaMtPow
import Derived.Test.YtbgmbjicidfhlaaRowsG
namespace Go.Proofs.Ytbgmbjicidfhlaa
open Go.ChangeShapes Go.WideShapes Go.ChangeAt Go.RowKit
set_option linter.unusedVariables false

def f22 (a b c d : Fp.F) : Nat → Nat → Fp.F := fun i j => if i = 0 then (if j = 0 then a else b) else (if j = 0 then c else d)
theorem fa1 : Mx.tab 2 2 (n22 1 2 3 4) = Mx.matl 2 2 (f22 1 2 3 4) := by decide +kernel
theorem fa2 : Mx.tab 2 2 (n22 0 1 1 0) = Mx.matl 2 2 (f22 0 1 1 0) := by decide +kernel
theorem fa3 : Mx.tab 2 2 (n22 1 1 0 1) = Mx.matl 2 2 (f22 1 1 0 1) := by decide +kernel
theorem fa4 : Mx.matl 2 2 (Mx.mul 2 (f22 1 2 3 4) (f22 0 1 1 0)) = Mx.tab 2 2 (n22 2 1 4 3) := by decide +kernel
theorem fa5 : Mx.matl 2 2 (Mx.pwm 2 (f22 1 1 0 1) 7) = Mx.tab 2 2 (n22 1 7 0 1) := by decide +kernel

set_option maxRecDepth 100000 in
set_option maxHeartbeats 1600000 in
theorem matFact_any (w : World) : Calls Try.prog 6 #[] w fun e w' => e = .returned (.bool true) ∧ Kp w w' := by
  have A1 : LiesM (lit22 (lit22 w w.heap.size 1 2 3 4) (w.heap.size + 1 + 1 + 1) 0 1 1 0) (some ⟨w.heap.size + 1 + 1, 0, none⟩) (Mx.matl 2 2 (f22 1 2 3 4)) := by
    rw [← fa1]; exact (lit22_lies w _ 1 2 3 4 rfl).keep (lit22_kp _ _ _ _ _ _)
  have A2 : LiesM (lit22 (lit22 w w.heap.size 1 2 3 4) (w.heap.size + 1 + 1 + 1) 0 1 1 0) (some ⟨w.heap.size + 1 + 1 + 1 + 1 + 1, 0, none⟩) (Mx.matl 2 2 (f22 0 1 1 0)) := by
    rw [← fa2]; exact lit22_lies _ _ 0 1 1 0 (lit22_size _ _ _ _ _ _).symm
  have A1 := Lib.hid A1
  have A2 := Lib.hid A2
  go_enter Try.func6, Try.ntmps6
  go_wp2_with fail
  refine (Mul_ok (some ⟨w.heap.size + 1 + 1, 0, none⟩) (some ⟨w.heap.size + 1 + 1 + 1 + 1 + 1, 0, none⟩) (f22 1 2 3 4) (f22 0 1 1 0) 2 2 2 2 2 (lit22 (lit22 w w.heap.size 1 2 3 4) (w.heap.size + 1 + 1 + 1) 0 1 1 0) A1.out A2.out
    (by decide) (by decide) (by decide) (by decide) (by decide) (by decide)).mono ?_
  rintro e w1 ⟨A1, c1, rfl, hc1, l1, k1⟩
  rw [fa4] at l1
  rw [Mx.len_matl] at hc1 ⊢
  have L1 := Lib.hid l1
  have K1 := Lib.hid (((lit22_kp w w.heap.size 1 2 3 4).trans (lit22_kp _ (w.heap.size + 1 + 1 + 1) 0 1 1 0)).trans k1)
  clear l1 k1
  go_wp2_with fail
  refine (Pow_ok (some ⟨w1.heap.size + 1 + 1, 0, none⟩) (f22 1 1 0 1) 2 2 7 (lit22 w1 w1.heap.size 1 1 0 1) (by rw [← fa3]; exact lit22_lies _ _ _ _ _ _ rfl) (by decide) (by decide) (by decide)).mono ?_
  rintro e w2 ⟨A2, c2, rfl, hc2, l2, k2⟩
  rw [fa5] at l2
  rw [Mx.len_matl] at hc2 ⊢
  have L2 := Lib.hid l2
  have K2 := Lib.hid ((lit22_kp w1 w1.heap.size 1 1 0 1).trans k2)
  clear l2 k2
  go_wp2_with fail
  refine (rows_eq A1 (some ⟨w2.heap.size + 1 + 1, 0, none⟩) (Mx.tab 2 2 (n22 2 1 4 3)) (Mx.tab 2 2 (n22 2 1 4 3)) 2 2 c1 2 (lit22 w2 w2.heap.size 2 1 4 3) (L1.out.keep (K2.out.trans (lit22_kp _ _ _ _ _ _))) (lit22_lies _ _ _ _ _ _ rfl) (Mx.len_tab _ _ _) (Mx.len_tab _ _ _) (modest_tab _ (by decide) (by decide)) (modest_tab _ (by decide) (by decide)) rfl).mono ?_
  rintro e w3 ⟨rfl, k3⟩
  have K3 := Lib.hid ((lit22_kp w2 w2.heap.size 2 1 4 3).trans k3)
  clear k3
  go_wp2_with fail
  refine (rows_eq A2 (some ⟨w3.heap.size + 1 + 1, 0, none⟩) (Mx.tab 2 2 (n22 1 7 0 1)) (Mx.tab 2 2 (n22 1 7 0 1)) 2 2 c2 2 (lit22 w3 w3.heap.size 1 7 0 1) (L2.out.keep (K3.out.trans (lit22_kp _ _ _ _ _ _))) (lit22_lies _ _ _ _ _ _ rfl) (Mx.len_tab _ _ _) (Mx.len_tab _ _ _) (modest_tab _ (by decide) (by decide)) (modest_tab _ (by decide) (by decide)) rfl).mono ?_
  rintro e w4 ⟨rfl, k4⟩
  have K4 := Lib.hid ((lit22_kp w3 w3.heap.size 1 7 0 1).trans k4)
  clear k4
  go_wp2_with fail
  go_ret
  exact ⟨rfl, ((K1.out.trans K2.out).trans K3.out).trans K4.out⟩

/-- A matrix of r rows and c columns, as package mat wants it. -/
structure Sh (r c : Nat) (f : Nat → Nat → Fp.F) (m : List (List Int)) : Prop where
  eq : m = Mx.matl r c f
  r0 : 0 < r
  r5 : r ≤ 5
  c0 : 0 < c
  c5 : c ≤ 5
theorem Sh.len {r c : Nat} {f : Nat → Nat → Fp.F} {m : List (List Int)} (h : Sh r c f m) : m.length = r := by rw [h.eq, Mx.len_matl]
theorem Sh.mat {r c : Nat} {f : Nat → Nat → Fp.F} {m : List (List Int)} (h : Sh r c f m) : Sh r c f (Mx.matl r c f) := ⟨rfl, h.r0, h.r5, h.c0, h.c5⟩
theorem sh_or (m : List (List Int)) : (Mx.mcode 5 0 9972 m = 0 ∧ ∃ r c f, Sh r c f m) ∨ Mx.mcode 5 0 9972 m ≠ 0 := by
  by_cases h : Mx.mcode 5 0 9972 m = 0
  · obtain ⟨r, c, f, e, h1, h2, h3, h4⟩ := Mx.mcode_zero h
    exact .inl ⟨h, r, c, f, ⟨e, h1, h2, h3, h4⟩⟩
  · exact .inr h
theorem Sh.code {r c : Nat} {f : Nat → Nat → Fp.F} {m : List (List Int)} (h : Sh r c f m) : Mx.mcode 5 0 9972 m = 0 := by
  rw [h.eq]; exact Mx.mcode_matl f h.r0 h.r5 h.c0 h.c5

/-- A call that answers an error and nothing else. -/
def FailsAny (w : World) (e : Ending) (w' : World) : Prop := ∃ z : Nat, e = .returned (.tuple #[.slice none 0 0, .iface 37 (.int .i64 (z : Int))]) ∧ Kp w w'
theorem FailsM.any {c : Nat} {w w' : World} {e : Ending} (h : FailsM c w e w') (hc : c ≠ 0) : FailsAny w e w' := ⟨c, by rw [h.1, errOf_ne c hc], h.2⟩

/-- A call that answers a matrix. -/
def Got (r c : Nat) (f : Nat → Nat → Fp.F) (w : World) (e : Ending) (w' : World) : Prop := ∃ A d, e = .returned (.tuple #[.slice A r d, .nilIface]) ∧ LiesM w' A (Mx.matl r c f) ∧ Kp w w'
theorem GivesM.got {r c : Nat} {f : Nat → Nat → Fp.F} {w w' : World} {e : Ending} (h : GivesM (Mx.matl r c f) w e w') : Got r c f w e w' := by
  obtain ⟨A, d, he, _, hl, hk⟩ := h
  rw [Mx.len_matl] at he
  exact ⟨A, d, he, hl, hk⟩

theorem Mul_or (A B : Option Addr) (a b : List (List Int)) (n m c d : Nat) (hn : a.length = n) (hm : b.length = m) :
    (∃ r q k f f', Sh r q f a ∧ Sh q k f' b) ∨ ∀ (w : World), LiesM w A a → LiesM w B b → Calls Try.prog 7 #[.slice A n c, .slice B m d] w fun e w' => FailsAny w e w' := by
  by_cases h : mcode2 a b = 0
  · obtain ⟨h1, h2⟩ := mcode2_zero h
    obtain ⟨r, q, f, e, r0, r5, q0, q5⟩ := Mx.mcode_zero h1
    obtain ⟨q', k, f', e', r0', r5', q0', q5'⟩ := Mx.mcode_zero h2
    by_cases hq : q = q'
    · subst hq
      exact .inl ⟨r, q, k, f, f', ⟨e, r0, r5, q0, q5⟩, ⟨e', r0', r5', q0', q5'⟩⟩
    · right
      subst e e'
      rw [Mx.len_matl] at hn hm
      subst hn hm
      intro w ha hb
      exact (Mul_shape A B f f' r q q' k c d w ha hb r0 r5 q0' q5' q0 q5 r0' r5' hq).mono fun e w' h => h.any (by decide)
  · exact .inr fun w ha hb => ((Mul_bad A B a b n m c d w ha hb hn hm h).mono fun e w' h' => h'.any h)
theorem Mul_sh {A B : Option Addr} {a b : List (List Int)} {r q k : Nat} {f f' : Nat → Nat → Fp.F} (sa : Sh r q f a) (sb : Sh q k f' b) (c d : Nat) (w : World) (ha : LiesM w A a) (hb : LiesM w B b) :
    Calls Try.prog 7 #[.slice A r c, .slice B q d] w fun e w' => Got r k (Mx.mul q f f') w e w' := by
  rw [sa.eq] at ha
  rw [sb.eq] at hb
  exact (Mul_ok A B f f' r q k c d w ha hb sa.r0 sa.r5 sa.c0 sa.c5 sb.c0 sb.c5).mono fun _ _ h => h.got
theorem Sh.mul {r q k : Nat} {f f' : Nat → Nat → Fp.F} {a b : List (List Int)} (sa : Sh r q f a) (sb : Sh q k f' b) : Sh r k (Mx.mul q f f') (Mx.matl r k (Mx.mul q f f')) := ⟨rfl, sa.r0, sa.r5, sb.c0, sb.c5⟩
theorem Sh.flip {r q : Nat} {f : Nat → Nat → Fp.F} {a : List (List Int)} (sa : Sh r q f a) : Sh q r (Mx.flip f) (Mx.matl q r (Mx.flip f)) := ⟨rfl, sa.c0, sa.c5, sa.r0, sa.r5⟩
theorem Sh.plus {r q : Nat} {f f' : Nat → Nat → Fp.F} {a : List (List Int)} (sa : Sh r q f a) : Sh r q (Mx.plus f f') (Mx.matl r q (Mx.plus f f')) := ⟨rfl, sa.r0, sa.r5, sa.c0, sa.c5⟩
theorem Sh.pow {r : Nat} {f : Nat → Nat → Fp.F} {a : List (List Int)} (sa : Sh r r f a) (k : Nat) : Sh r r (Mx.pwm r f k) (Mx.matl r r (Mx.pwm r f k)) := ⟨rfl, sa.r0, sa.r5, sa.c0, sa.c5⟩
theorem Sh.one {r q : Nat} {f : Nat → Nat → Fp.F} {a : List (List Int)} (sa : Sh r q f a) : Sh r r Mx.one (Mx.matl r r Mx.one) := ⟨rfl, sa.r0, sa.r5, sa.r0, sa.r5⟩
theorem Sh.modest {r q : Nat} {f : Nat → Nat → Fp.F} {a : List (List Int)} (sa : Sh r q f a) : Modest a := by
  rw [sa.eq]; exact modest_tab _ (Nat.le_trans sa.r5 (by decide)) (Nat.le_trans sa.c5 (by decide))

theorem Turn_or (A : Option Addr) (m : List (List Int)) (n d : Nat) (hn : m.length = n) :
    (∃ r c f, Sh r c f m) ∨ ∀ (w : World), LiesM w A m → Calls Try.prog 11 #[.slice A n d] w fun e w' => FailsAny w e w' := by
  rcases sh_or m with ⟨_, h⟩ | h
  · exact .inl h
  · exact .inr fun w ha => ((Turn_bad A m n d w ha hn h).mono fun e w' h' => h'.any h)
theorem Turn_sh {A : Option Addr} {m : List (List Int)} {r c : Nat} {f : Nat → Nat → Fp.F} (s : Sh r c f m) (d : Nat) (w : World) (ha : LiesM w A m) :
    Calls Try.prog 11 #[.slice A r d] w fun e w' => Got c r (Mx.flip f) w e w' := by
  rw [s.eq] at ha
  exact (Turn_ok A f r c d w ha s.r0 s.r5 s.c0 s.c5).mono fun _ _ h => h.got
theorem Add_or (A B : Option Addr) (a b : List (List Int)) (n m c d : Nat) (hn : a.length = n) (hm : b.length = m) :
    (∃ r q f f', Sh r q f a ∧ Sh r q f' b) ∨ ∀ (w : World), LiesM w A a → LiesM w B b → Calls Try.prog 10 #[.slice A n c, .slice B m d] w fun e w' => FailsAny w e w' := by
  by_cases h : mcode2 a b = 0
  · obtain ⟨h1, h2⟩ := mcode2_zero h
    obtain ⟨r, q, f, e, r0, r5, q0, q5⟩ := Mx.mcode_zero h1
    obtain ⟨r', q', f', e', r0', r5', q0', q5'⟩ := Mx.mcode_zero h2
    by_cases hq : r = r' ∧ q = q'
    · obtain ⟨rfl, rfl⟩ := hq
      exact .inl ⟨r, q, f, f', ⟨e, r0, r5, q0, q5⟩, ⟨e', r0', r5', q0', q5'⟩⟩
    · right
      subst e e'
      rw [Mx.len_matl] at hn hm
      subst hn hm
      intro w ha hb
      exact (Add_shape A B f f' r q r' q' c d w ha hb r0 r5 q0 q5 r0' r5' q0' q5' hq).mono fun e w' h => h.any (by decide)
  · exact .inr fun w ha hb => ((Add_bad A B a b n m c d w ha hb hn hm h).mono fun e w' h' => h'.any h)
theorem Add_sh {A B : Option Addr} {a b : List (List Int)} {r q : Nat} {f f' : Nat → Nat → Fp.F} (sa : Sh r q f a) (sb : Sh r q f' b) (c d : Nat) (w : World) (ha : LiesM w A a) (hb : LiesM w B b) :
    Calls Try.prog 10 #[.slice A r c, .slice B r d] w fun e w' => Got r q (Mx.plus f f') w e w' := by
  rw [sa.eq] at ha
  rw [sb.eq] at hb
  exact (Add_ok A B f f' r q c d w ha hb sa.r0 sa.r5 sa.c0 sa.c5).mono fun _ _ h => h.got
theorem Pow_or (A : Option Addr) (m : List (List Int)) (n d : Nat) (k : Int) (hn : m.length = n) :
    (∃ r f, Sh r r f m) ∨ ∀ (w : World), LiesM w A m → Calls Try.prog 13 #[.slice A n d, .int .i64 k] w fun e w' => FailsAny w e w' := by
  rcases sh_or m with ⟨_, r, c, f, s⟩ | h
  · by_cases hq : r = c
    · subst hq; exact .inl ⟨r, f, s⟩
    · right
      rw [s.len] at hn
      subst hn
      intro w ha
      rw [s.eq] at ha
      exact (Pow_shape A f r c d k w ha s.r0 s.r5 s.c0 s.c5 hq).mono fun e w' h => h.any (by decide)
  · exact .inr fun w ha => ((Pow_bad A m n d k w ha hn h).mono fun e w' h' => h'.any h)
theorem Pow_sh {A : Option Addr} {m : List (List Int)} {n : Nat} {f : Nat → Nat → Fp.F} (s : Sh n n f m) (d k : Nat) (w : World) (ha : LiesM w A m) (hk : k ≤ 1000) :
    Calls Try.prog 13 #[.slice A n d, .int .i64 (k : Int)] w fun e w' => Got n n (Mx.pwm n f k) w e w' := by
  rw [s.eq] at ha
  exact (Pow_ok A f n d k w ha s.r0 s.r5 hk).mono fun _ _ h => h.got

end Go.Proofs.Ytbgmbjicidfhlaa
