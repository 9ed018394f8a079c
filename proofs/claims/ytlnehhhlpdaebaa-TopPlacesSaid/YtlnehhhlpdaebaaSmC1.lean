/- Contracts of package smith, first part: a determinant of some rows and columns. -/
import Derived.Test.YtlnehhhlpdaebaaSmM
import Derived.Test.YtlnehhhlpdaebaaCatS
import Derived.Test.YtlnehhhlpdaebaaOwnM
import Derived.Deep.RegionHeld3
namespace Go.Proofs.Ytlnehhhlpdaebaa
open Go.ChangeShapes Go.WideShapes Go.ChangeAt Go.RowKit
set_option linter.unusedVariables false

/-- Places as whole numbers. -/
def nz (l : List Nat) : List Int := l.map fun (x : Nat) => (x : Int)
theorem nz_len (l : List Nat) : (nz l).length = l.length := List.length_map ..
theorem nz_at {l : List Nat} {k : Nat} (h : k < l.length) : (nz l).getD k 0 = ((l.getD k 0 : Nat) : Int) := by
  simp [nz, List.getD_eq_getElem?_getD, h]
theorem nz_less (l : List Nat) (k : Nat) : nz (l.take k ++ l.drop (k + 1)) = (nz l).take k ++ (nz l).drop (k + 1) := by
  unfold nz; rw [List.map_append, List.map_take, List.map_drop]
theorem Lies.num {w : World} {A : Option Addr} {l : List Nat} (h : Lies w A (nz l)) {k : Nat} (hk : k < l.length) : ∃ ad, A = some ad ∧ ad.block < w.heap.size ∧ w.cell? (ad.add k) = some (.int .i64 ((l.getD k 0 : Nat) : Int)) := by
  obtain ⟨ad, e, hl, hc⟩ := h k (by rw [nz_len]; exact hk)
  rw [nz_at hk] at hc
  exact ⟨ad, e, hl, hc⟩

theorem minor_nil (f : Nat → Nat → Int) (M A B : Option Addr) (n dm c : Nat) (cs : List Nat) (q d : Nat) (w : World) :
    Calls Try.prog 58 #[.slice M n dm, .slice A 0 c, .slice B q d] w fun e w' => e = .returned (.int .i64 (Zx.mnr f [] cs)) ∧ Kp w w' := by
  rw [Zx.mnr_nil]
  go_enter Try.func58, Try.ntmps58
  go_wp2
  go_ret
  exact ⟨rfl, Kp.rfl' w⟩

set_option maxRecDepth 100000 in
set_option maxHeartbeats 3200000 in
theorem minor_step {n : Nat} {f : Nat → Nat → Int} (hf : ∀ i j, i < n → j < n → (f i j).natAbs ≤ 20) (M : Option Addr) (dm : Nat) (hn3 : n ≤ 3) (L : Nat) (hL : L ≤ 2)
    (ih : ∀ (rs cs : List Nat) (A B : Option Addr) (c d : Nat) (w : World), rs.length = L → cs.length = L → Zx.Und n rs → Zx.Und n cs → L ≤ c → L ≤ d → LiesM w M (Mx.tab n n f) → Lies w A (nz rs) → Lies w B (nz cs) →
      Calls Try.prog 58 #[.slice M n dm, .slice A L c, .slice B L d] w fun e w' => e = .returned (.int .i64 (Zx.mnr f rs cs)) ∧ Kp w w')
    (r : Nat) (rs cs : List Nat) (A B : Option Addr) (c d : Nat) (w : World) (hrl : rs.length = L) (hcl : cs.length = L + 1) (hr : Zx.Und n (r :: rs)) (hc : Zx.Und n cs) (h1 : L + 1 ≤ c) (h2 : L + 1 ≤ d)
    (hm : LiesM w M (Mx.tab n n f)) (ha : Lies w A (nz (r :: rs))) (hb : Lies w B (nz cs)) :
    Calls Try.prog 58 #[.slice M n dm, .slice A (L + 1) c, .slice B (L + 1) d] w fun e w' => e = .returned (.int .i64 (Zx.mnr f (r :: rs) cs)) ∧ Kp w w' := by
  have SG := Lib.hid (fun k => Zx.sgn_next k)
  have EQ := Lib.hid (show Zx.mnr f (r :: rs) cs = Zx.sg (L + 1) fun k => Zx.sgn k * f r (cs.getD k 0) * Zx.mnr f rs (cs.take k ++ cs.drop (k + 1)) by rw [Zx.mnr_cons, hcl])
  have PB := Lib.hid (fun t (ht : t ≤ L + 1) => Nat.le_trans (Zx.mnr_part hf hr hc (by omega) (t := t) (by omega)) (show 60 ^ (rs.length + 1) ≤ 216000 by rw [hrl]; exact Nat.le_trans (Nat.pow_le_pow_right (by decide) (show L + 1 ≤ 3 by omega)) (by decide)))
  have MB := Lib.hid (fun k (hk : k < L + 1) => Nat.le_trans (Zx.mnr_bound hf rs (cs.take k ++ cs.drop (k + 1)) hr.tail (hc.less k) (by have := Zx.len_less (cs := cs) (k := k) (by omega); omega)) (show 60 ^ rs.length ≤ 3600 by rw [hrl]; exact Nat.le_trans (Nat.pow_le_pow_right (by decide) hL) (by decide)))
  have FB := Lib.hid (fun k (hk : k < L + 1) => hf r (cs.getD k 0) hr.head (hc.at (by omega)))
  have SB := Lib.hid Zx.sgn_abs
  obtain ⟨adA, rfl, hlA, xa⟩ := ha.num (k := 0) (by simp)
  rw [show (r :: rs).getD 0 0 = r from rfl] at xa
  obtain ⟨adM, AR, dR, rfl, hlM, xm, hdr, hR⟩ := hm.row hr.head
  have XA := Lib.hid (fun w' (k : Kp w w') => (k.cell (p := adA.add 0) (by rw [block_add]; exact hlA)).trans xa)
  have XM := Lib.hid (fun w' (k : Kp w w') => (k.cell (p := adM.add r) (by rw [block_add]; exact hlM)).trans xm)
  have XR := Lib.hid (fun (j : Nat) (hj : j < n) => (show ∃ ad, AR = some ad ∧ ∀ w', Kp w w' → w'.cell? (ad.add j) = some (.int .i64 (f r j)) from by
    obtain ⟨ad, e, hl, hx⟩ := hR.el hj
    exact ⟨ad, e, fun w' k => (k.cell (p := ad.add j) (by rw [block_add]; exact hl)).trans hx⟩))
  have XB := Lib.hid (fun k (hk : k < L + 1) => (show ∃ ad, B = some ad ∧ ∀ w', Kp w w' → w'.cell? (ad.add k) = some (.int .i64 ((cs.getD k 0 : Nat) : Int)) from by
    obtain ⟨ad, e, hl, hx⟩ := hb.num (k := k) (by omega)
    exact ⟨ad, e, fun w' k' => (k'.cell (p := ad.add k) (by rw [block_add]; exact hl)).trans hx⟩))
  have CN := Lib.hid (fun k (hk : k < L + 1) => hc.at (show k < cs.length by omega))
  have RN := hr.head
  have CC := Lib.hid (fun k (hk : k < L + 1) (g : Nat) (A1 A2 : Option Addr) (e1 e2 : Nat) (w' : World) (kw : Kp w w') (h1 : A1 = B) (h2 : k + 1 < L + 1 → ∃ ad, B = some ad ∧ A2 = some (ad.add (k + 1)))
      (c0 : w'.cell? ⟨g, 0, none⟩ = some (.slice A1 k e1)) (c1 : w'.cell? ⟨g, 1, none⟩ = some (.slice A2 (L - k) e2)) =>
    (show Calls Try.prog 63 #[.slice (some ⟨g, 0, none⟩) 2 2] w' fun e w'' => ∃ C cc, e = .returned (.slice C L cc) ∧ L ≤ cc ∧ Lies w'' C (nz (cs.take k ++ cs.drop (k + 1))) ∧ Kp w' w'' from by
      subst h1
      have hb' := hb.keep kw
      have hlen : (nz cs).length = L + 1 := by rw [nz_len, hcl]
      refine (concat_all g k (L - k) e1 e2 A1 A2 ((nz cs).take k) ((nz cs).drop (k + 1)) w' c0 c1 (hb'.take k) (fun i hi => ?_) (by rw [List.length_take]; omega) (by rw [List.length_drop]; omega) (by omega)).mono fun e w'' ⟨v, he, ho, hk'⟩ => ?_
      · have hlt : k + 1 < L + 1 := by rw [List.length_drop] at hi; omega
        obtain ⟨ad, e, rfl⟩ := h2 hlt
        subst e
        exact hb'.drop (k + 1) i hi
      · obtain ⟨C, cc, rfl, hl, hle⟩ := ho.cap
        rw [← nz_less] at hl
        have e1 : ((nz cs).take k ++ (nz cs).drop (k + 1)).length = L := by rw [← nz_less, nz_len]; have := Zx.len_less (cs := cs) (k := k) (by omega); omega
        rw [e1] at he hle
        exact ⟨C, cc, he, hle, hl, hk'⟩))
  have IH := Lib.hid (fun k (hk : k < L + 1) (A' C : Option Addr) (c' cc : Nat) (w0 w' : World) (kw : Kp w w') (hA : 0 < L → A' = some (adA.add 1)) (h1 : L ≤ c') (h2 : L ≤ cc) (hC : Lies w0 C (nz (cs.take k ++ cs.drop (k + 1)))) (k0 : Kp w0 w') =>
    ih rs (cs.take k ++ cs.drop (k + 1)) A' C c' cc w' hrl (by have := Zx.len_less (cs := cs) (k := k) (by omega); omega) hr.tail (hc.less k) h1 h2 (hm.keep kw) (fun i hi => by
      rw [nz_len, hrl] at hi
      rw [hA (by omega)]
      exact ((ha.keep kw).drop 1) i (by rw [List.length_drop, nz_len, List.length_cons]; omega)) (hC.keep k0))
  have e0 : ((L : Int) + 1 == 0) = false := by rw [beq_eq_false_iff_ne]; omega
  clear hf hm ha hb hr hc hrl hcl ih hR xa xm hlA hlM
  go_enter Try.func58, Try.ntmps58
  go_wp2_with fail
  go_loopw [7, 8, 9, 10, 11, 17] (fun s g _ _ _ i wr => ∃ k : Nat, k ≤ L + 1 ∧ i = .int .i64 (k : Int) ∧ s = .int .i64 (Zx.sg k fun k => Zx.sgn k * f r (cs.getD k 0) * Zx.mnr f rs (cs.take k ++ cs.drop (k + 1))) ∧ g = .int .i64 (Zx.sgn k) ∧ Kp w wr) (fun _ _ _ _ _ i _ => L + 1 - (intOf i).toNat)
  case atStart => exact ⟨0, Nat.zero_le _, rfl, rfl, rfl, Kp.rfl' w⟩
  case round =>
    obtain ⟨k, hk, rfl, rfl, rfl, hkw⟩ := hrel
    have HK := Lib.hid hkw
    by_cases hlt : k < L + 1
    · obtain ⟨adB, rfl, hxb⟩ := XB.out k hlt
      have xb := hxb wr hkw
      have ST := Lib.hid (show (Zx.sg (k + 1) fun k => Zx.sgn k * f r (cs.getD k 0) * Zx.mnr f rs (cs.take k ++ cs.drop (k + 1))) = (Zx.sg k fun k => Zx.sgn k * f r (cs.getD k 0) * Zx.mnr f rs (cs.take k ++ cs.drop (k + 1))) + Zx.sgn k * f r (cs.getD k 0) * Zx.mnr f rs (cs.take k ++ cs.drop (k + 1)) from rfl)
      have b1 := PB.out k (by omega)
      have b2 := PB.out (k + 1) (by omega)
      have b3 := MB.out k hlt
      have b4 := FB.out k hlt
      have b5 := SB.out k
      have b6 := SG.out k
      have XR' := Lib.hid (XR.out _ (CN.out k hlt))
      have CC' := Lib.hid (CC.out k hlt)
      have IH' := Lib.hid (IH.out k hlt)
      have CNk := CN.out k hlt
      rw [ST.out] at b2
      generalize (Zx.sg k fun k => Zx.sgn k * f r (cs.getD k 0) * Zx.mnr f rs (cs.take k ++ cs.drop (k + 1))) = s at *
      generalize Zx.mnr f rs (cs.take k ++ cs.drop (k + 1)) = y at *
      generalize cs.getD k 0 = z at *
      have RA := XA.out
      obtain ⟨adR, rfl, hxr⟩ := XR'.out
      have xr := hxr wr hkw
      have xa := XA.out wr hkw
      have xm := XM.out wr hkw
      clear hxb
      have kd : k ≤ d := by omega
      have kk1 : (k : Int) ≤ (k : Int) + 1 := by omega
      have kd1 : k + 1 ≤ d := by omega
      have kl1 : k + 1 ≤ L + 1 := by omega
      have hkw1 : IntKind.i64.wrap ((k : Int) + 1) = (k : Int) + 1 := IntWalk.i64_in _ (by omega)
      have k0 : (0 : Int) ≤ (k : Int) + 1 := by omega
      have kl : k ≤ L := by omega
      have HA2 := Lib.hid (show (some ⟨adB.block, adB.off + (k + 1), none⟩ : Option Addr) = some (adB.add (k + 1)) by rw [Addr.add_succ'])
      have t1 : (Zx.sgn k * f r z).natAbs ≤ 20 := by rw [Int.natAbs_mul, b5, Nat.one_mul]; exact b4
      have t2 : (Zx.sgn k * f r z * y).natAbs ≤ 72000 := by rw [Int.natAbs_mul]; exact Nat.le_trans (Nat.mul_le_mul t1 b3) (by decide)
      have hw1 : IntKind.i64.wrap (Zx.sgn k * f r z) = Zx.sgn k * f r z := IntWalk.i64_in _ (by omega)
      have hw2 : IntKind.i64.wrap (Zx.sgn k * f r z * y) = Zx.sgn k * f r z * y := IntWalk.i64_in _ (by omega)
      have hw3 : IntKind.i64.wrap (s + Zx.sgn k * f r z * y) = s + Zx.sgn k * f r z * y := IntWalk.i64_in _ (by omega)
      have hw4 : IntKind.i64.wrap (-Zx.sgn k) = -Zx.sgn k := IntWalk.i64_in _ (by omega)
      have SGN := Lib.hid b6
      have c1 : 1 ≤ c := by omega
      have HAA := Lib.hid (show (some ⟨adA.block, adA.off + 1, none⟩ : Option Addr) = some (adA.add 1) by rw [Addr.add_succ'])
      have LC1 := Lib.hid (show 0 < L → ¬ c = 1 by omega)
      have lc1 : L ≤ c - 1 := by omega
      have l1 : (1 : Int) ≤ (L : Int) + 1 := by omega
      have XRF := Lib.hid hxr
      clear b1 b2 b3 b4 b5 b6 t1 t2 hkw hdr
      go_wp2_with fail
      go_region_law (first
        | (go_simp; go_at_call 63; refine (CC'.out wr.heap.size (some adB) (if d = k + 1 then some adB else some ⟨adB.block, adB.off + (k + 1), none⟩) d (d - (k + 1)) _ ((HK.out.new _).drewN 1) rfl (fun h => ⟨adB, rfl, by rw [if_neg (by omega)]; exact HA2.out⟩) ((cell_made wr _ _ _ 0 rfl).trans rfl) ((cell_made wr _ _ _ 1 rfl).trans rfl)).mono ?_; rintro e w2 ⟨C, cc, rfl, hcc, hlC, hk2⟩; have K2 := Lib.hid (((HK.out.new _).drewN 1).trans hk2); have LC := Lib.hid hlC; clear hlC hk2))
      generalize (if d = k + 1 then some adB else some (⟨adB.block, adB.off + (k + 1), none⟩ : Addr)) = A2
      clear xb xr xa xm
      have xa2 := XA.out w2 K2.out
      rw [add_zero'] at xa2
      have xm2 := XM.out w2 K2.out
      have xr2 := XRF.out w2 K2.out
      go_wp2_with fail
      go_region_law (first
        | (go_simp; go_at_call 58; refine (IH'.out (if c = 1 then some adA else some ⟨adA.block, adA.off + 1, none⟩) C (c - 1) cc w2 _ (K2.out.drewN 1) (fun h => by rw [if_neg (LC1.out h)]; exact HAA.out) lc1 hcc LC.out ((Kp.rfl' w2).drewN 1)).mono ?_; rintro e w3 ⟨rfl, hk3⟩; have K3 := Lib.hid ((K2.out.drewN 1).trans hk3); have xa3 := XA.out w3 K3.out; rw [add_zero'] at xa3; have xm3 := XM.out w3 K3.out; have xr3 := XRF.out w3 K3.out; clear hk3))
      all_goals
        generalize (if c = 1 then some adA else some (⟨adA.block, adA.off + 1, none⟩ : Addr)) = A3
        go_wp2_with fail
        go_roundw
        case rel => exact ⟨k + 1, by omega, by go_num, by rw [ST.out], by rw [SGN.out], K3.out⟩
        case measure => simp [intOf]; omega
    · obtain rfl : k = L + 1 := by omega
      clear hkw hk
      go_wp2_with fail
      go_ret
      exact ⟨by rw [EQ.out]; rfl, HK.out⟩
/-- smith.minor: the determinant of as many rows as columns. -/
theorem minor_any {n : Nat} {f : Nat → Nat → Int} (hf : ∀ i j, i < n → j < n → (f i j).natAbs ≤ 20) (M : Option Addr) (dm : Nat) (hn3 : n ≤ 3) : ∀ (L : Nat), L ≤ 3 →
    ∀ (rs cs : List Nat) (A B : Option Addr) (c d : Nat) (w : World), rs.length = L → cs.length = L → Zx.Und n rs → Zx.Und n cs → L ≤ c → L ≤ d → LiesM w M (Mx.tab n n f) → Lies w A (nz rs) → Lies w B (nz cs) →
      Calls Try.prog 58 #[.slice M n dm, .slice A L c, .slice B L d] w fun e w' => e = .returned (.int .i64 (Zx.mnr f rs cs)) ∧ Kp w w'
  | 0, _, rs, cs, A, B, c, d, w, hr, _, _, _, _, _, _, _, _ => by
    obtain rfl : rs = [] := List.eq_nil_of_length_eq_zero hr
    exact minor_nil f M A B n dm c cs 0 d w
  | L + 1, hL, rs, cs, A, B, c, d, w, hr, hc, ur, uc, h1, h2, hm, ha, hb => by
    cases rs with
    | nil => cases hr
    | cons r rs => exact minor_step hf M dm hn3 L (by omega) (minor_any hf M dm hn3 L (by omega)) r rs cs A B c d w (by simpa using hr) hc ur uc h1 h2 hm ha hb
end Go.Proofs.Ytlnehhhlpdaebaa
