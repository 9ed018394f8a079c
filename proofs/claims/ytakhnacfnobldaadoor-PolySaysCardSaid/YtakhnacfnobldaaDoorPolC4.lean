/- Contracts of package poly, fourth part: monic, Div, Gcd, At. -/
import Derived.Test.YtakhnacfnobldaaDoorPolC3
namespace Go.Proofs.YtakhnacfnobldaaDoor
open Go.ChangeShapes Go.WideShapes Go.ChangeAt Go.RowKit
set_option linter.unusedVariables false

theorem Lies.trim {w : World} {A : Option Addr} {p : List Fp.F} (h : Lies w A (Pol.vals p)) : Lies w A (Pol.vals (Pol.trim p)) := by
  rw [Pol.trim_take, Pol.vals_take]; exact h.take _

/-- The last one alone. -/
theorem lies_last {w : World} {ad : Addr} {p : List Fp.F} {k : Nat} (hk : p.length = k + 1) (h : Lies w (some ad) (Pol.vals p)) : Lies w (some (ad.add k)) (Pol.vals [Pol.top p]) := fun j hj => by
  have hj0 : j = 0 := by simp [Pol.vals] at hj; exact hj
  subst hj0
  obtain ⟨ad', e, h1, h2⟩ := h k (by rw [Pol.len_vals]; omega)
  injection e with e
  subst e
  refine ⟨_, rfl, by rw [block_add]; exact h1, ?_⟩
  rw [add_add, Nat.add_zero, h2, Pol.vals_at, Pol.vals_at, Pol.co_zero, Pol.top, hk]
  rfl

set_option maxRecDepth 100000 in
set_option maxHeartbeats 800000 in
theorem monic_any (A : Option Addr) (p : List Fp.F) (c : Nat) (w : World) (ha : Lies w A (Pol.vals p)) (hp : Pol.Tr p) (lp : p.length ≤ 100) (hc : p.length ≤ c) :
    Calls Tryd.prog 28 #[.slice A p.length c] w fun e w' => Gives (Pol.mon p) w e w' := by
  by_cases h0 : p = []
  · subst h0
    rw [List.length_nil] at *
    go_enter Tryd.func28, Tryd.ntmps28
    go_wp2_with fail
    go_ret2
    exact ⟨none, 0, rfl, Lies.empty _ _, Nat.le_refl _, Kp.rfl' _⟩
  · have HD := Lib.hid (fun q r (d : Pol.Dv p [Pol.top p] q r) => Pol.mon_dv hp h0 (by omega) d)
    obtain ⟨k, hk⟩ : ∃ k, p.length = k + 1 := ⟨p.length - 1, by have := List.length_pos_iff.2 h0; omega⟩
    obtain ⟨ad, rfl, _⟩ := ha k (by rw [Pol.len_vals]; omega)
    have DV := Lib.hid (divide_any (some ad) (some (ad.add k)) p [Pol.top p] c (c - k) w ha (lies_last hk ha) hp (fun _ => (show Pol.co [Pol.top p] 0 ≠ 0 from by rw [Pol.co_zero]; exact Pol.top_ne hp h0)) (by simp) lp (by simp))
    rw [hk] at lp hc DV ⊢
    rw [List.length_singleton] at DV
    have c1 : c - k ≠ 0 := by omega
    have c2 : (k : Int) ≤ (c : Int) := by omega
    clear ha hp h0 hk
    go_enter Tryd.func28, Tryd.ntmps28
    go_wp2_with fail
    refine (DV.out).mono ?_; rintro e w' ⟨q, r, dv, A', c', B', d', rfl, l1, l2, l3, l4, hkp⟩
    obtain rfl := HD.out q r dv
    have L1 := Lib.hid l1
    have HK := Lib.hid hkp
    clear dv l1 l3 l4 hkp DV
    go_wp2_with fail
    go_ret2
    exact ⟨A', c', rfl, L1.out, l2, HK.out⟩

/-- The answer is an error, and no rows. -/
def Fails2 (c : Nat) (w : World) (e : Ending) (w' : World) : Prop := e = .returned (.tuple #[.slice none 0 0, .slice none 0 0, errOf c]) ∧ Kp w w'

theorem div_bad (A B : Option Addr) (l m : List Int) (c d : Nat) (w : World) (ha : Lies w A l) (hb : Lies w B m)
    (h : Pol.code2 l m ≠ 0) :
    Calls Tryd.prog 16 #[.slice A l.length c, .slice B m.length d] w fun e w' => Fails2 (Pol.code2 l m) w e w' := by
  have C := Lib.hid (checkBoth_any A B l m c d w ha hb)
  have hs := code2_some l m h
  clear h ha hb
  generalize Pol.code2 l m = x at *
  generalize l.length = n at *
  generalize m.length = q at *
  rcases hs with rfl | rfl
  · go_enter Tryd.func16, Tryd.ntmps16
    go_wp2_with fail
    refine (C.out).mono ?_; rintro e w' ⟨rfl, rfl⟩
    rw [show errOf 1 = .iface 44 (.int .i64 1) from rfl]
    go_wp2_with fail
    refine bodyPost_ret (v := .tuple #[.slice none 0 0, .slice none 0 0, .iface 44 (.int .i64 1)]) (by simp [results, Tryd.results16, go_sem]) rfl ⟨rfl, Kp.rfl' _⟩
  · go_enter Tryd.func16, Tryd.ntmps16
    go_wp2_with fail
    refine (C.out).mono ?_; rintro e w' ⟨rfl, rfl⟩
    rw [show errOf 4 = .iface 44 (.int .i64 4) from rfl]
    go_wp2_with fail
    refine bodyPost_ret (v := .tuple #[.slice none 0 0, .slice none 0 0, .iface 44 (.int .i64 4)]) (by simp [results, Tryd.results16, go_sem]) rfl ⟨rfl, Kp.rfl' _⟩

theorem div_null (A B : Option Addr) (p q : List Fp.F) (c d : Nat) (w : World) (ha : Lies w A (Pol.vals p)) (hb : Lies w B (Pol.vals q)) (hp : p.length ≤ 12) (hq : q.length ≤ 12) (hd : q.length ≤ d)
    (h : Pol.trim q = []) :
    Calls Tryd.prog 16 #[.slice A p.length c, .slice B q.length d] w fun e w' => Fails2 5 w e w' := by
  have C := Lib.hid (checkBoth_ok A B p q c d w ha hb hp hq)
  have T := Lib.hid (trimmed_any B q d w hb hd (by omega))
  rw [h, List.length_nil] at T
  clear ha hb h
  generalize p.length = n at *
  generalize q.length = m at *
  go_enter Tryd.func16, Tryd.ntmps16
  go_wp2_with fail
  refine (C.out).mono ?_; rintro e w' ⟨rfl, rfl⟩
  go_wp2_with fail
  refine (T.out).mono ?_; rintro e w' ⟨rfl, rfl⟩
  go_wp2_with fail
  refine bodyPost_ret (v := .tuple #[.slice none 0 0, .slice none 0 0, .iface 44 (.int .i64 5)]) (by simp [results, Tryd.results16, go_sem]) rfl ⟨rfl, Kp.rfl' _⟩

theorem div_ok (A B : Option Addr) (p q : List Fp.F) (c d : Nat) (w : World) (ha : Lies w A (Pol.vals p)) (hb : Lies w B (Pol.vals q)) (hp : p.length ≤ 12) (hq : q.length ≤ 12) (hc : p.length ≤ c) (hd : q.length ≤ d)
    (h : Pol.trim q ≠ []) :
    Calls Tryd.prog 16 #[.slice A p.length c, .slice B q.length d] w fun e w' => ∃ u r, Pol.Dv (Pol.trim p) (Pol.trim q) u r ∧ GivesTwo u r w e w' := by
  have C := Lib.hid (checkBoth_ok A B p q c d w ha hb hp hq)
  have TB := Lib.hid (trimmed_any B q d w hb hd (by omega))
  have TA := Lib.hid (trimmed_any A p c w ha hc (by omega))
  have D := Lib.hid (divide_any A B (Pol.trim p) (Pol.trim q) c d w ha.trim hb.trim (Pol.tr_trim p) (Pol.tr_trim q) h (by have := Pol.len_trim p; omega) (by have := Pol.len_trim q; omega))
  obtain ⟨k, hk⟩ : ∃ k, (Pol.trim q).length = k + 1 := ⟨(Pol.trim q).length - 1, by have := List.length_pos_iff.2 h; omega⟩
  have hl := Pol.len_trim q
  rw [hk] at TB D hl
  clear ha hb h hk
  generalize (Pol.trim p).length = n' at *
  generalize p.length = n at *
  generalize q.length = m at *
  go_enter Tryd.func16, Tryd.ntmps16
  go_wp2_with fail
  refine (C.out).mono ?_; rintro e w' ⟨rfl, rfl⟩
  go_wp2_with fail
  refine (TB.out).mono ?_; rintro e w' ⟨rfl, rfl⟩
  go_wp2_with fail
  refine (TA.out).mono ?_; rintro e w' ⟨rfl, rfl⟩
  go_wp2_with fail
  refine (D.out).mono ?_; rintro e w' ⟨u, r, dv, A', c', B', d', rfl, l1, l2, l3, l4, hkp⟩
  have L1 := Lib.hid l1
  have L3 := Lib.hid l3
  have HK := Lib.hid hkp
  have DV := Lib.hid dv
  clear dv l1 l3 hkp D
  go_wp2_with fail
  refine bodyPost_ret (v := .tuple #[.slice A' u.length c', .slice B' r.length d', .nilIface]) (by simp [results, Tryd.results16, go_sem]) rfl ⟨u, r, DV.out, A', c', B', d', rfl, L1.out, l2, L3.out, l4, HK.out⟩

theorem gcd_bad (A B : Option Addr) (l m : List Int) (c d : Nat) (w : World) (ha : Lies w A l) (hb : Lies w B m)
    (h : Pol.code2 l m ≠ 0) :
    Calls Tryd.prog 13 #[.slice A l.length c, .slice B m.length d] w fun e w' => Fails (Pol.code2 l m) w e w' := by
  have C := Lib.hid (checkBoth_any A B l m c d w ha hb)
  have hs := code2_some l m h
  clear h ha hb
  generalize Pol.code2 l m = x at *
  generalize l.length = n at *
  generalize m.length = q at *
  rcases hs with rfl | rfl
  · go_enter Tryd.func13, Tryd.ntmps13
    go_wp2_with fail
    refine (C.out).mono ?_; rintro e w' ⟨rfl, rfl⟩
    rw [show errOf 1 = .iface 44 (.int .i64 1) from rfl]
    go_wp2_with fail
    go_ret2
    exact ⟨rfl, Kp.rfl' _⟩
  · go_enter Tryd.func13, Tryd.ntmps13
    go_wp2_with fail
    refine (C.out).mono ?_; rintro e w' ⟨rfl, rfl⟩
    rw [show errOf 4 = .iface 44 (.int .i64 4) from rfl]
    go_wp2_with fail
    go_ret2
    exact ⟨rfl, Kp.rfl' _⟩

/-- What Euclid's rounds keep. -/
def GcdRel (p q : List Fp.F) (w : World) (u v : Value) (wr : World) : Prop :=
  ∃ A c B d f g, u = .slice A f.length c ∧ v = .slice B g.length d ∧ Lies wr A (Pol.vals f) ∧ Lies wr B (Pol.vals g) ∧ f.length ≤ c ∧ g.length ≤ d ∧ Pol.Tr f ∧ Pol.Tr g ∧ f.length ≤ 12 ∧ g.length ≤ 12 ∧
    (∀ z, Pol.Gc f g z → Pol.Gc p q z) ∧ Kp w wr

set_option maxRecDepth 100000 in
set_option maxHeartbeats 1600000 in
theorem gcd_ok (A B : Option Addr) (p q : List Fp.F) (c d : Nat) (w : World) (ha : Lies w A (Pol.vals p)) (hb : Lies w B (Pol.vals q)) (hp : p.length ≤ 12) (hq : q.length ≤ 12) (hc : p.length ≤ c) (hd : q.length ≤ d) :
    Calls Tryd.prog 13 #[.slice A p.length c, .slice B q.length d] w fun e w' => ∃ z, Pol.Gc (Pol.trim p) (Pol.trim q) z ∧ Gives (Pol.mon z) w e w' := by
  have C := Lib.hid (checkBoth_ok A B p q c d w ha hb hp hq)
  have TB := Lib.hid (trimmed_any B q d w hb hd (by omega))
  have TA := Lib.hid (trimmed_any A p c w ha hc (by omega))
  have START := Lib.hid (show GcdRel (Pol.trim p) (Pol.trim q) w (.slice A (Pol.trim p).length c) (.slice B (Pol.trim q).length d) w from
    ⟨A, c, B, d, Pol.trim p, Pol.trim q, rfl, rfl, ha.trim, hb.trim, Nat.le_trans (Pol.len_trim p) hc, Nat.le_trans (Pol.len_trim q) hd, Pol.tr_trim p, Pol.tr_trim q, Nat.le_trans (Pol.len_trim p) hp, Nat.le_trans (Pol.len_trim q) hq, fun _ h => h, Kp.rfl' w⟩)
  clear ha hb
  generalize (Pol.trim p) = P at *
  generalize (Pol.trim q) = Q at *
  generalize p.length = n at *
  generalize q.length = m at *
  go_enter Tryd.func13, Tryd.ntmps13
  go_wp2_with fail
  refine (C.out).mono ?_; rintro e w' ⟨rfl, rfl⟩
  go_wp2_with fail
  refine (TA.out).mono ?_; rintro e w' ⟨rfl, rfl⟩
  go_wp2_with fail
  refine (TB.out).mono ?_; rintro e w' ⟨rfl, rfl⟩
  go_wp2_with fail
  go_loopw [0, 1] (fun u v wr => GcdRel P Q w u v wr) (fun _ v _ => sliceLen v)
  case atStart => exact START.out
  case round =>
    clear START TA TB C
    obtain ⟨A1, c1, B1, d1, f, g, rfl, rfl, la, lb, hf, hg, tf, tg, lf, lg, hz, hkp⟩ := hrel
    have HZ := Lib.hid hz
    have HK := Lib.hid hkp
    by_cases g0 : g = []
    · subst g0
      have M := Lib.hid (monic_any A1 f c1 wr la tf (by omega) hf)
      clear hz hkp la lb tf tg
      rw [List.length_nil] at *
      obtain ⟨n1, hn1⟩ : ∃ n1, n1 = f.length := ⟨_, rfl⟩
      rw [← hn1] at hf lf M ⊢
      clear hn1
      go_wp2_with fail
      refine (M.out).mono ?_; rintro e w' ⟨A2, c2, rfl, l1, l2, hkp2⟩
      have L1 := Lib.hid l1
      have HK2 := Lib.hid hkp2
      clear l1 hkp2 M
      go_wp2_with fail
      go_ret2
      exact ⟨f, HZ.out f (.done f), A2, c2, rfl, L1.out, l2, HK.out.trans HK2.out⟩
    · have D := Lib.hid (divide_any A1 B1 f g c1 d1 wr la lb tf tg g0 (by omega) (by omega))
      have LB := Lib.hid lb
      have TG := Lib.hid tg
      obtain ⟨k, hk⟩ : ∃ k, g.length = k + 1 := ⟨g.length - 1, by have := List.length_pos_iff.2 g0; omega⟩
      have HGL := Lib.hid hk
      rw [hk] at hg lg D ⊢
      clear hz hkp la lb tf tg g0 hk
      generalize hn1 : f.length = n1 at *
      clear hn1
      go_wp2_with fail
      refine (D.out).mono ?_; rintro e w' ⟨u, r, dv, A2, c2, B2, d2, rfl, l1, l2, l3, l4, hkp2⟩
      have REL := Lib.hid (show GcdRel P Q w (.slice B1 (k + 1) d1) (.slice B2 r.length d2) w' from
        ⟨B1, d1, B2, d2, g, r, by rw [HGL.out], rfl, LB.out.keep hkp2, l3, by rw [HGL.out]; exact hg, l4, TG.out, dv.tr, by rw [HGL.out]; exact lg, by have := dv.lt; have := HGL.out; omega, fun z h => HZ.out z (.step dv h), HK.out.trans hkp2⟩)
      have hlt : r.length < k + 1 := by have := dv.lt; have := HGL.out; omega
      clear dv l1 l2 l3 l4 hkp2 D
      generalize r.length = rn at *
      go_wp2_with fail
      go_roundw
      case rel => exact REL.out
      case measure => simp [sliceLen]; omega

/-- What is wrong with a row and a place. -/
def atCode (l : List Int) (x : Int) : Nat := if Pol.code l = 0 then (if 0 ≤ x ∧ x ≤ 9972 then 0 else 1) else Pol.code l

theorem at_bad (A : Option Addr) (l : List Int) (c : Nat) (x : Int) (w : World) (ha : Lies w A l) (h : atCode l x ≠ 0) :
    Calls Tryd.prog 19 #[.slice A l.length c, .int .i64 x] w fun e w' => e = .returned (.tuple #[.int .i64 0, errOf (atCode l x)]) ∧ w = w' := by
  have C := Lib.hid (check_any A l c w ha)
  have hs := Pol.code_some l
  unfold atCode at *
  clear ha
  generalize Pol.code l = y at *
  generalize l.length = n at *
  rcases hs with rfl | rfl | rfl
  · by_cases hx : 0 ≤ x ∧ x ≤ 9972
    · rw [if_pos rfl, if_pos hx] at h; exact absurd rfl h
    · rw [if_pos rfl, if_neg hx]
      clear h
      by_cases h0 : x < 0
      · clear hx
        go_enter Tryd.func19, Tryd.ntmps19
        go_wp2_with fail
        refine (C.out).mono ?_; rintro e w' ⟨rfl, rfl⟩
        rw [show errOf 0 = .nilIface from rfl]
        go_wp2_with fail
        go_ret2
        exact ⟨rfl, rfl⟩
      · have h1 : 9973 ≤ x := by omega
        clear hx
        go_enter Tryd.func19, Tryd.ntmps19
        go_wp2_with fail
        refine (C.out).mono ?_; rintro e w' ⟨rfl, rfl⟩
        rw [show errOf 0 = .nilIface from rfl]
        go_wp2_with fail
        go_ret2
        exact ⟨rfl, rfl⟩
  · rw [if_neg (by decide)]
    go_enter Tryd.func19, Tryd.ntmps19
    go_wp2_with fail
    refine (C.out).mono ?_; rintro e w' ⟨rfl, rfl⟩
    rw [show errOf 1 = .iface 44 (.int .i64 1) from rfl]
    go_wp2_with fail
    go_ret2
    exact ⟨rfl, rfl⟩
  · rw [if_neg (by decide)]
    go_enter Tryd.func19, Tryd.ntmps19
    go_wp2_with fail
    refine (C.out).mono ?_; rintro e w' ⟨rfl, rfl⟩
    rw [show errOf 4 = .iface 44 (.int .i64 4) from rfl]
    go_wp2_with fail
    go_ret2
    exact ⟨rfl, rfl⟩

theorem at_ok (A : Option Addr) (p : List Fp.F) (c : Nat) (x : Fp.F) (w : World) (ha : Lies w A (Pol.vals p)) (hp : p.length ≤ 100) (hc : Pol.code (Pol.vals p) = 0) :
    Calls Tryd.prog 19 #[.slice A p.length c, el x] w fun e w' => e = .returned (.tuple #[el (Pol.ev p x), .nilIface]) ∧ w = w' := by
  have C := Lib.hid (check_any A (Pol.vals p) c w ha)
  rw [Pol.len_vals, hc, show errOf 0 = .nilIface from rfl] at C
  have HA := Lib.hid ha
  obtain ⟨n, hn⟩ : ∃ n, n = p.length := ⟨_, rfl⟩
  rw [← hn] at hp C ⊢
  have HN := Lib.hid hn
  have x1 := Fp.val_bound x
  have ST := Lib.hid (fun (v a : Fp.F) => Pol.val_horner v x a)
  have PB := Lib.hid (fun (v : Fp.F) => prod_bound v x)
  have hxv : el x = .int .i64 (x.val : Int) := rfl
  clear ha hn hc
  rw [hxv]
  generalize (x.val : Int) = xv at *
  clear hxv
  go_enter Tryd.func19, Tryd.ntmps19
  go_wp2_with fail
  refine (C.out).mono ?_; rintro e w' ⟨rfl, rfl⟩
  go_wp2_with fail
  go_loop [7, 8] (fun v i => ∃ j : Nat, j ≤ n ∧ i = .int .i64 ((j : Int) - 1) ∧ v = el (Pol.ev (p.drop j) x)) (fun _ i => (intOf i + 1).toNat)
  case atStart => exact ⟨n, Nat.le_refl _, by go_num, by rw [HN.out, List.drop_length]; rfl⟩
  case round =>
    obtain ⟨j, hj, rfl, rfl⟩ := hrel
    cases j with
    | zero =>
      have ei : ((0 : Nat) : Int) - 1 = -1 := by decide
      rw [ei, List.drop_zero]
      go_wp2_with fail
      go_ret2
      exact ⟨rfl, rfl⟩
    | succ j =>
      have ei : ((j + 1 : Nat) : Int) - 1 = (j : Int) := by omega
      rw [ei]
      obtain ⟨ad, rfl, _, hcell⟩ := HA.out j (by rw [Pol.len_vals, ← HN.out]; omega)
      rw [Pol.vals_at] at hcell
      have E := Lib.hid (Pol.ev_drop p j (by have := HN.out; omega) x)
      obtain ⟨v, hv⟩ : ∃ v, v = Pol.ev (p.drop (j + 1)) x := ⟨_, rfl⟩
      obtain ⟨a, ha⟩ : ∃ a, a = Pol.co p j := ⟨_, rfl⟩
      rw [← hv]
      rw [← ha] at hcell
      rw [← hv, ← ha] at E
      have HV := Lib.hid (ST.out v a)
      obtain ⟨p1, p2⟩ := PB.out v
      have v1 := Fp.val_bound v
      have a1 := Fp.val_bound a
      clear hv ha
      unfold el
      generalize (v.val : Int) = vv at *
      generalize (a.val : Int) = av at *
      go_wp2_with fail
      go_round
      case rel => exact ⟨j, by omega, by go_num, by rw [HV.out, ← E.out]⟩
      case measure => simp [intOf]

end Go.Proofs.YtakhnacfnobldaaDoor
