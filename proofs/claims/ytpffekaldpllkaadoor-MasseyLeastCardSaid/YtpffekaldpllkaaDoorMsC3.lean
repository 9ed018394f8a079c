/- Contracts of package massey, third part: shortest. -/
import Derived.Test.YtpffekaldpllkaaDoorMsC2
import Derived.Test.YtpffekaldpllkaaDoorFld
namespace Go.Proofs.YtpffekaldpllkaaDoor
open Go.ChangeShapes Go.WideShapes Go.ChangeAt Go.RowKit
set_option linter.unusedVariables false

/-- A row of its own behind block g0, or none. -/
def OffR (g0 : Nat) (A : Option Addr) (l : Nat) (f : Nat → Fp.F) (w : World) : Prop := (l = 0 ∧ A = none) ∨ ∃ g, A = some ⟨g, 0, none⟩ ∧ g0 < g ∧ Row w g (rowF l f)
theorem OffR.keep {w w' : World} {g0 : Nat} {A : Option Addr} {l : Nat} {f : Nat → Fp.F} (h : OffR g0 A l f w) (hk : Kp w w') : OffR g0 A l f w' := by
  rcases h with h | ⟨g, h1, h2, h3⟩
  · exact .inl h
  · exact .inr ⟨g, h1, h2, h3.keep hk⟩
theorem OffR.put {w : World} {g0 : Nat} {A : Option Addr} {l : Nat} {f : Nat → Fp.F} (h : OffR g0 A l f w) (k : Nat) (v : Value) : OffR g0 A l f (w.setCell ⟨g0, k, none⟩ v) := by
  rcases h with h | ⟨g, h1, h2, h3⟩
  · exact .inl h
  · exact .inr ⟨g, h1, h2, h3.far (by show g ≠ g0; omega) v⟩
theorem OffR.lies {w : World} {g0 : Nat} {A : Option Addr} {l : Nat} {f : Nat → Fp.F} (h : OffR g0 A l f w) : Lies w A (rowF l f) := by
  rcases h with ⟨rfl, _⟩ | ⟨g, rfl, _, h3⟩
  · exact Lies.empty w A
  · exact h3.lies

/-- The fewest factors of a row, and no error. -/
def GivesF (N : Nat) (x : Nat → Fp.F) (w : World) (e : Ending) (w' : World) : Prop :=
  ∃ A l c f, e = .returned (.tuple #[.slice A l c, .nilIface]) ∧ Lies w' A (rowF l f) ∧ Mx.Few N l x ∧ Mx.Gn N l f x ∧ Kp w w'

theorem shortest_bad (A : Option Addr) (L : List Int) (c : Nat) (w : World) (ha : Lies w A L) (h : scd L ≠ 0) :
    Calls Tryd.prog 19 #[.slice A L.length c] w fun e w' => e = .returned (.tuple #[.slice none 0 0, errOf (scd L)]) ∧ Kp w w' := by
  have CK := Lib.hid (sChk_any A L c w ha)
  rw [errOf_ne _ h] at CK ⊢
  generalize scd L = z at *
  generalize L.length = n at *
  clear ha h
  go_enter Tryd.func19, Tryd.ntmps19
  go_wp2_with fail
  refine (CK.out).mono ?_; rintro e w' ⟨rfl, rfl⟩
  go_wp2_with fail
  go_ret2
  exact ⟨rfl, Kp.rfl' _⟩

set_option maxRecDepth 100000 in
set_option maxHeartbeats 6400000 in
theorem shortest_ok (A : Option Addr) (N c : Nat) (x : Nat → Fp.F) (w : World) (ha : Lies w A (rowF N x)) (hN : N ≤ 16) :
    Calls Tryd.prog 19 #[.slice A N c] w fun e w' => GivesF N x w e w' := by
  have CK := Lib.hid (sChk_good (L := rowF N x) ⟨rfl, hN⟩ A c w ha)
  have HA := Lib.hid ha
  clear ha
  unfold GivesF
  go_enter Tryd.func19, Tryd.ntmps19
  go_wp2_with fail
  refine (CK.out).mono ?_; rintro e w' ⟨rfl, rfl⟩
  clear CK
  go_upto_region 6 with (fail)
  have hfx := Fx.made w none 0 0 (-1) 1 51 _ rfl
  have hk0 : Kp w (w.alloc (.cells #[.slice none 0 0, .int .i64 (-1), .int .i64 1] 51)) := (Kp.rfl' w).new _
  obtain ⟨w0, hw0⟩ : ∃ x, x = w.alloc (.cells #[.slice none 0 0, .int .i64 (-1), .int .i64 1] 51) := ⟨_, rfl⟩
  rw [← hw0] at hfx hk0 ⊢
  clear hw0
  obtain ⟨g0, hg0⟩ : ∃ g0, g0 = w.heap.size := ⟨_, rfl⟩
  rw [← hg0] at hfx ⊢
  have HG0 := Lib.hid hg0
  clear hg0
  go_wp2_with fail
  go_loopw [2, 3, 5, 7, 8, 9, 10, 11, 20] (fun _ _ v _ _ _ _ _ i wr => ∃ (k l cc lb dd : Nat) (A' B : Option Addr) (f b : Nat → Fp.F) (m : Int) (d : Fp.F), k ≤ N ∧ i = .int .i64 (k : Int) ∧ v = .slice A' l cc ∧ OffR g0 A' l f wr ∧ OffR g0 B lb b wr ∧ Fx g0 B lb dd m (d.val : Int) wr ∧ Mx.Ber x k l f m lb b d ∧ Kp w wr) (fun _ _ _ _ _ _ _ _ i _ => N - (intOf i).toNat)
  case atStart => exact ⟨0, 0, 0, 0, 0, none, none, fun _ => 0, fun _ => 0, -1, 1, Nat.zero_le _, rfl, rfl, .inl ⟨rfl, rfl⟩, .inl ⟨rfl, rfl⟩, hfx, Mx.Ber.start _ _ _, hk0⟩
  case round =>
    clear hfx hk0
    obtain ⟨k, l, cc, lb, dd, A', B, f, b, m, d, hk, rfl, rfl, hv, hb, hfx, hber, hkp⟩ := hrel
    have HV := Lib.hid hv
    have HB := Lib.hid hb
    have HF := Lib.hid hfx
    have HBE := Lib.hid hber
    have HK := Lib.hid hkp
    have lk := hber.len
    clear hv hb hfx hber hkp
    by_cases hlt : k < N
    · have MI := Lib.hid (fun w' (h : Kp wr w') => smiss_any A A' N l k c cc x f w' (HA.out.keep (HK.out.trans h)) (HV.out.lies.keep h) hN hlt lk)
      obtain ⟨e, he⟩ : ∃ e, e = Mx.dsc l f x k := ⟨_, rfl⟩
      rw [← he] at MI
      have HE := Lib.hid he
      by_cases h0 : e = 0
      · have HBE' := Lib.hid (HBE.out.keep (by rw [← he]; exact h0))
        have ez : (((e.val : Int)) == 0) = true := by rw [h0]; decide
        generalize (e.val : Int) = z at *
        clear he h0
        go_wp2_with fail
        refine (MI.out _ (Kp.rfl' _)).mono ?_; rintro e w' ⟨rfl, rfl⟩
        go_wp2_with fail
        go_roundw
        case rel => exact ⟨k + 1, l, cc, lb, dd, A', B, f, b, m, d, by omega, by go_num, rfl, HV.out, HB.out, HF.out, HBE'.out, HK.out⟩
        case measure => simp [intOf]; omega
      · have ez : (((e.val : Int)) == 0) = false := by
          rw [beq_eq_false_iff_ne]
          intro h
          exact h0 (Fp.val_inj (a := e) (b := 0) h)
        have hd := HBE.out.ne
        have DV := Lib.hid (fun w' => div_el e d w' hd)
        have HAD := Lib.hid (show e * Fp.inv d * d = e by have := Fp.inv_mul hd; grind)
        obtain ⟨a, haa⟩ : ∃ a, a = e * Fp.inv d := ⟨_, rfl⟩
        rw [← haa] at DV HAD
        obtain ⟨hm1, hm2, hlb⟩ := HBE.out.old
        obtain ⟨s, hs⟩ : ∃ s : Nat, (s : Int) = (k : Int) - m := ⟨((k : Int) - m).toNat, by omega⟩
        obtain ⟨hs0, hs1⟩ := HBE.out.many hs
        obtain ⟨L, hL⟩ : ∃ L, L = max l (s + lb) := ⟨_, rfl⟩
        have CO := Lib.hid (fun w' (h : Kp wr w') => scor_any A' B l lb cc dd k s L m (d.val : Int) f b a w' (HV.out.lies.keep h) (HB.out.lies.keep h) hs hs0 hL (by omega) (by omega) (by omega))
        have HH0 := Lib.hid h0
        have HS := Lib.hid hs
        have HL := Lib.hid hL
        have hl16 : l ≤ 16 := by omega
        have hL16 : L ≤ 16 := by omega
        have x0 := HF.out.c0
        have x1 := HF.out.c1
        have x2 := HF.out.c2
        unfold el at DV
        have ev : ∃ z, z = (e.val : Int) := ⟨_, rfl⟩
        obtain ⟨z, hz⟩ := ev
        obtain ⟨y, hy⟩ : ∃ y, y = (d.val : Int) := ⟨_, rfl⟩
        obtain ⟨t, ht⟩ : ∃ t, t = (a.val : Int) := ⟨_, rfl⟩
        rw [← hz] at MI ez DV
        rw [← hy] at x2 DV
        rw [← ht] at DV CO
        have HZ := Lib.hid hz
        clear he h0 hd haa hm1 hm2 hlb hs hs0 hs1 hL hz hy ht
        go_wp2_with fail
        refine (MI.out _ (Kp.rfl' _)).mono ?_; rintro e w' ⟨rfl, rfl⟩
        go_wp2_with fail
        refine (DV.out _).mono ?_; rintro e w1 ⟨rfl, hdr⟩
        have hk1 := hdr.kp
        have HF1 := Lib.hid (HF.out.keep hk1)
        have K1 := Lib.hid hk1
        clear hdr hk1 x0 x1 x2
        have x0 := HF1.out.c0
        have x1 := HF1.out.c1
        have x2 := HF1.out.c2
        go_wp2_with fail
        refine (CO.out _ K1.out).mono ?_; rintro e' w2 ⟨g, rfl, hr, hg, hk2⟩
        have HF2 := Lib.hid (HF1.out.keep hk2)
        have HKK := Lib.hid (HK.out.trans (K1.out.trans hk2))
        have HV2 := Lib.hid ((HV.out.keep K1.out).keep hk2)
        have HB2 := Lib.hid ((HB.out.keep K1.out).keep hk2)
        have HG := Lib.hid (show g0 < g by have := HF1.out.lt; omega)
        have HR := Lib.hid hr
        clear hr hg hk2 x0 x1 x2 MI DV CO
        by_cases h2 : l < L
        · have hI : (l : Int) < (L : Int) := by omega
          have hpl : L = s + lb := by have := HL.out; omega
          have NB := Lib.hid (HBE.out.more HE.out.symm HH0.out HS.out HAD.out h2 hpl)
          have x0 := HF2.out.c0
          have x1 := HF2.out.c1
          have x2 := HF2.out.c2
          have x3 := HF2.out.z0
          have x4 := HF2.out.z1
          have x5 := HF2.out.z2
          clear hpl
          go_wp2_with fail
          go_roundw
          case rel => exact ⟨k + 1, L, L, l, cc, some ⟨g, 0, none⟩, A', _, f, (k : Int), e, by omega, by go_num, rfl, .inr ⟨g, rfl, HG.out, ((HR.out.far (by have := HG.out; show g ≠ g0; omega) _).far (by have := HG.out; show g ≠ g0; omega) _).far (by have := HG.out; show g ≠ g0; omega) _⟩, ((HV2.out.put 0 _).put 1 _).put 2 _, by rw [← HZ.out]; exact HF2.out.put A' l cc (k : Int) z, NB.out, by
            have hB : w.heap.size ≤ g0 := by rw [HG0.out]; exact Nat.le_refl _
            exact ((HKK.out.put (p := ⟨g0, 0, none⟩) hB _).put (p := ⟨g0, 1, none⟩) hB _).put (p := ⟨g0, 2, none⟩) hB _⟩
          case measure => simp [intOf]; omega
        · obtain rfl : L = l := by have := HL.out; omega
          have NB := Lib.hid (HBE.out.same HE.out.symm HH0.out HS.out HAD.out (by have := HL.out; omega))
          clear h2
          go_wp2_with fail
          go_roundw
          case rel => exact ⟨k + 1, L, L, lb, dd, some ⟨g, 0, none⟩, B, _, b, m, d, by omega, by go_num, rfl, .inr ⟨g, rfl, HG.out, HR.out⟩, HB2.out, HF2.out, NB.out, HKK.out⟩
          case measure => simp [intOf]; omega
    · obtain rfl : k = N := by omega
      go_wp2_with fail
      go_ret2
      exact ⟨A', l, cc, f, rfl, HV.out.lies, HBE.out.few, HBE.out.gn, HK.out⟩

end Go.Proofs.YtpffekaldpllkaaDoor
