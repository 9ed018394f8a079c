/- The document's determinant of whole numbers, of up to six rows of larger numbers. For all packages. -/
import Derived.Test.YtkebjmapdcbnaaaZDet
namespace Go.Proofs.Ytkebjmapdcbnaaa
open Go.ChangeShapes Go.WideShapes Go.ChangeAt Go.RowKit
set_option linter.unusedVariables false

theorem Zx.fb_hundred {n : Nat} (h : n ≤ 5) : Zx.fb 100 n ≤ 1200000000000 := by
  have : n = 0 ∨ n = 1 ∨ n = 2 ∨ n = 3 ∨ n = 4 ∨ n = 5 := by omega
  rcases this with e | e | e | e | e | e <;> rw [e] <;> decide +kernel
theorem Zx.dt_boundH {n : Nat} {x : Nat → Nat → Int} (h5 : n ≤ 5) (hx : ∀ i j, i < n → j < n → Zx.ab (x i j) ≤ 100) {q : Nat} (hq : q ≤ n) : -1200000000000 ≤ Zx.dt q x ∧ Zx.dt q x ≤ 1200000000000 := by
  have h1 := Zx.dt_ab (M := 100) (by omega) q x fun i j hi hj => hx i j (by omega) (by omega)
  have h2 := Zx.fb_hundred (n := q) (by omega)
  unfold Zx.ab at h1
  omega

/-- The products and sums of an expansion by the first row are small. -/
theorem exp_boundH {p : Nat} {f : Nat → Nat → Int} (hp : p < 6) (h : ∀ i j, i < p + 1 → j < p + 1 → -100 ≤ f i j ∧ f i j ≤ 100) {k : Nat} (hk : k ≤ p + 1) :
    (-720000000000000 ≤ (Zx.sg k fun j => Zx.sgn j * f 0 j * Zx.dt p (Zx.del j f)) ∧ (Zx.sg k fun j => Zx.sgn j * f 0 j * Zx.dt p (Zx.del j f)) ≤ 720000000000000) ∧
      (k < p + 1 → (-100 ≤ sgnI k * f 0 k ∧ sgnI k * f 0 k ≤ 100) ∧ -120000000000000 ≤ sgnI k * f 0 k * Zx.dt p (Zx.del k f) ∧ sgnI k * f 0 k * Zx.dt p (Zx.del k f) ≤ 120000000000000) := by
  have hd : ∀ j, j < p + 1 → -1200000000000 ≤ Zx.dt p (Zx.del j f) ∧ Zx.dt p (Zx.del j f) ≤ 1200000000000 := fun j hj => by
    refine Zx.dt_boundH (n := p) (by omega) (fun a b ha hb => ?_) (Nat.le_refl p)
    have := h (a + 1) (Mx.sk j b) (by omega) (Mx.sk_lt hb)
    show Zx.ab (f (a + 1) (Mx.sk j b)) ≤ 100
    unfold Zx.ab; omega
  have hm : ∀ j, j < p + 1 → (-100 ≤ sgnI j * f 0 j ∧ sgnI j * f 0 j ≤ 100) ∧ -120000000000000 ≤ sgnI j * f 0 j * Zx.dt p (Zx.del j f) ∧ sgnI j * f 0 j * Zx.dt p (Zx.del j f) ≤ 120000000000000 := fun j hj => by
    have h1 := hd j hj
    have h2 := h 0 j (by omega) hj
    have h3 : -100 ≤ sgnI j * f 0 j ∧ sgnI j * f 0 j ≤ 100 := by
      rcases sgnI_some j with e | e <;> rw [e] <;> omega
    generalize sgnI j * f 0 j = a at *
    generalize Zx.dt p (Zx.del j f) = b at *
    have e : (a * b).natAbs ≤ 100 * 1200000000000 := by
      rw [Int.natAbs_mul]
      exact Nat.mul_le_mul (by omega) (by omega)
    omega
  refine ⟨?_, fun hk' => hm k hk'⟩
  have : ∀ q, q ≤ p + 1 → -(120000000000000 * (q : Int)) ≤ (Zx.sg q fun j => Zx.sgn j * f 0 j * Zx.dt p (Zx.del j f)) ∧ (Zx.sg q fun j => Zx.sgn j * f 0 j * Zx.dt p (Zx.del j f)) ≤ 120000000000000 * (q : Int) := by
    intro q
    induction q with
    | zero => intro _; rw [Zx.sg_zero]; omega
    | succ q ih =>
      intro hq
      have h1 := ih (by omega)
      have h2 := (hm q (by omega)).2
      rw [Zx.sg_succ, Zx.sgn_I]
      omega
  have := this k hk
  omega

set_option maxRecDepth 100000 in
set_option maxHeartbeats 6400000 in
theorem rDetH_step (A : Option Addr) (f : Nat → Nat → Int) (p n d : Nat) (w : World) (ha : LiesM w A (Mx.tab n n f)) (hn : n = p + 1) (hp : p < 6) (hf : ∀ i j, i < n → j < n → -100 ≤ f i j ∧ f i j ≤ 100)
    (ih : ∀ (A : Option Addr) (f : Nat → Nat → Int) (d : Nat) (w : World), (∀ i j, i < p → j < p → -100 ≤ f i j ∧ f i j ≤ 100) → LiesM w A (Mx.tab p p f) → Calls Try.prog 9 #[.slice A p d] w fun e w' => e = .returned (.int .i64 (Zx.dt p f)) ∧ Kp w w') :
    Calls Try.prog 9 #[.slice A n d] w fun e w' => e = .returned (.int .i64 (Zx.dt n f)) ∧ Kp w w' := by
  have HA := Lib.hid ha
  have IH := Lib.hid ih
  have hdt : Zx.dt n f = Zx.sg n fun j => Zx.sgn j * f 0 j * Zx.dt p (Zx.del j f) := by rw [hn]; rfl
  rw [hdt]
  have h0 : 0 < n := by omega
  have hn1 : n ≤ 1001 := by omega
  have e0 : ((n : Int) == 0) = false := by rw [beq_eq_false_iff_ne]; omega
  have WO := Lib.hid (fun (k : Nat) (w : World) (hk : k < n) (h : LiesM w A (Mx.tab n n f)) => show Calls Try.prog 17 #[.slice A n d, .int .i64 0, .int .i64 (k : Int)] w fun e w' => ∃ A d, e = .returned (.slice A p d) ∧ LiesM w' A (Mx.tab p p (Zx.del k f)) ∧ Kp w w' by
    subst hn
    have := rWithoutZ_any A f p 0 k d w h (Nat.zero_le _) (by omega) (by omega)
    rw [Int.toNat_natCast, Zx.wo_del] at this
    exact this)
  have BND := Lib.hid (fun (k : Nat) (hk : k ≤ n) => exp_boundH (p := p) (f := f) hp (by rw [← hn]; exact hf) (k := k) (by omega))
  have BND2 := Lib.hid (fun (k : Nat) (hk : k < n) => (exp_boundH (p := p) (f := f) hp (by rw [← hn]; exact hf) (k := k) (by omega)).2 (by omega))
  have DB := Lib.hid (fun (k : Nat) (hk : k < n) => show ∀ i j, i < p → j < p → -100 ≤ Zx.del k f i j ∧ Zx.del k f i j ≤ 100 from fun i j hi hj => hf (i + 1) (Mx.sk k j) (by omega) (by rw [hn]; exact Mx.sk_lt hj))
  clear ha ih hdt hn hf
  go_enter Try.func9, Try.ntmps9
  go_wp2_with fail
  go_loopw [3, 4, 5] (fun s g i wr => ∃ k : Nat, k ≤ n ∧ i = .int .i64 (k : Int) ∧ g = .int .i64 (sgnI k) ∧ s = .int .i64 (Zx.sg k fun j => Zx.sgn j * f 0 j * Zx.dt p (Zx.del j f)) ∧ Kp w wr) (fun _ _ i _ => n - (intOf i).toNat)
  case atStart => exact ⟨0, Nat.zero_le _, rfl, rfl, rfl, Kp.rfl' _⟩
  case round =>
    obtain ⟨k, hk, rfl, rfl, rfl, hkp⟩ := hrel
    have HK := Lib.hid hkp
    by_cases hlt : k < n
    · obtain ⟨ad, A0, d0, ea, hl0, x1, _, l1⟩ := (HA.out.keep hkp).row h0
      subst ea
      rw [add_zero'] at x1
      obtain ⟨ad1, ea, hl1, x2⟩ := l1.el hlt
      subst ea
      obtain ⟨s, hs⟩ : ∃ s, s = Zx.sg k fun j => Zx.sgn j * f 0 j * Zx.dt p (Zx.del j f) := ⟨_, rfl⟩
      have hbs := (BND.out k hk).1
      have hbm := BND2.out k hlt
      have hs2 : (Zx.sg (k + 1) fun j => Zx.sgn j * f 0 j * Zx.dt p (Zx.del j f)) = s + sgnI k * f 0 k * Zx.dt p (Zx.del k f) := by rw [Zx.sg_succ, hs, Zx.sgn_I]
      rw [← hs] at hbs ⊢
      have HSG := Lib.hid (sgnI_succ k)
      have hsg := sgnI_some k
      have hneg : IntKind.i64.wrap (-(sgnI k)) = -(sgnI k) := IntWalk.i64_in _ (by omega)
      have D1 := Lib.hid (DB.out k hlt)
      clear l1 hs
      by_cases hz : f 0 k = 0
      · have HS := Lib.hid (show s = Zx.sg (k + 1) fun j => Zx.sgn j * f 0 j * Zx.dt p (Zx.del j f) by rw [hs2, hz]; simp)
        rw [hz] at x2
        generalize sgnI k = gi at *
        clear hbs hbm hkp hz hs2
        go_wp2_with fail
        go_roundw
        case rel => exact ⟨k + 1, by omega, by go_num, by rw [HSG.out], by rw [HS.out], HK.out⟩
        case measure => simp [intOf]; omega
      · have e1 : ((f 0 k) != 0) = true := by rw [bne_iff_ne]; exact hz
        have HI := Lib.hid (fun A' d' w' h => IH.out A' (Zx.del k f) d' w' D1.out h)
        have HS := Lib.hid hs2
        generalize (f 0 k) = xv at *
        generalize (Zx.dt p (Zx.del k f)) = dv at *
        generalize sgnI k = gi at *
        obtain ⟨y, hy⟩ : ∃ y, y = gi * xv := ⟨_, rfl⟩
        rw [← hy] at hbm HS
        obtain ⟨z, hz'⟩ : ∃ z, z = y * dv := ⟨_, rfl⟩
        rw [← hz'] at hbm HS
        have hw1 : IntKind.i64.wrap (gi * xv) = y := by rw [← hy]; exact IntWalk.i64_in _ (by omega)
        have hw2 : IntKind.i64.wrap (y * dv) = z := by rw [← hz']; exact IntWalk.i64_in _ (by omega)
        have hw3 : IntKind.i64.wrap (s + z) = s + z := IntWalk.i64_in _ (by omega)
        have kd : Kp wr wr.drew := (Kp.rfl' wr).drewN 1
        have W1 := Lib.hid (WO.out k wr.drew hlt (HA.out.keep (hkp.trans kd)))
        have SK := Lib.hid (fun (w' : World) (h : Kp wr w') => (show w'.cell? ad = some (.slice (some ad1) n d0) ∧ w'.cell? (ad1.add k) = some (.int .i64 xv) ∧ Kp wr w' from
          ⟨(h.cell (p := ad) hl0).trans x1, (h.cell (p := ad1.add k) (by rw [block_add]; exact hl1)).trans x2, h⟩))
        clear hbs hbm hkp hz hs2 hy hz' hsg
        go_wp2_with fail
        go_region_held3 (fun w' => w'.cell? ad = some (.slice (some ad1) n d0) ∧ w'.cell? (ad1.add k) = some (.int .i64 xv) ∧ Kp wr w')
          (first
          | exact SK.out _ (Kp.rfl' _)
          | exact SK.out _ kd
          | exact SK.out _ (kd.trans k1)
          | exact SK.out _ ((kd.trans k1).trans k2))
          ((first
          | (go_at_call 17; (with_reducible refine (W1.out).mono ?_); rintro e w1 ⟨A1, c1, rfl, l1, k1⟩)
          | (go_at_call 9; (with_reducible refine (HI.out A1 c1 _ l1).mono ?_); rintro e w2 ⟨rfl, k2⟩)))
        have HK2 := Lib.hid (HK.out.trans ((kd.trans k1).trans k2))
        clear k1 k2 l1 x1 x2
        go_wp2_with fail
        go_roundw
        case rel => exact ⟨k + 1, by omega, by go_num, by rw [HSG.out], by rw [HS.out], HK2.out⟩
        case measure => simp [intOf]; omega
    · obtain rfl : k = n := by omega
      clear hkp
      go_wp2_with fail
      go_ret
      exact ⟨rfl, HK.out⟩

theorem rDetH_any : ∀ (n : Nat) (hn : n ≤ 6) (A : Option Addr) (f : Nat → Nat → Int) (d : Nat) (w : World) (hf : ∀ i j, i < n → j < n → -100 ≤ f i j ∧ f i j ≤ 100) (ha : LiesM w A (Mx.tab n n f)),
    Calls Try.prog 9 #[.slice A n d] w fun e w' => e = .returned (.int .i64 (Zx.dt n f)) ∧ Kp w w'
  | 0, _, A, f, d, w, hf, ha => by
    have e1 : Zx.dt 0 f = 1 := rfl
    rw [e1]
    clear ha hf
    go_enter Try.func9, Try.ntmps9
    go_wp2
    go_ret
    exact ⟨rfl, Kp.rfl' _⟩
  | p + 1, hp, A, f, d, w, hf, ha => rDetH_step A f p (p + 1) d w ha rfl (by omega) hf (fun A f d w hf h => rDetH_any p (by omega) A f d w hf h)
end Go.Proofs.Ytkebjmapdcbnaaa
