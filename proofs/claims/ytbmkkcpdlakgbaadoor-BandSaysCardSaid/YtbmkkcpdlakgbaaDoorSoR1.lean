/- Contracts of the document's To: where a matrix takes a row. -/
import Derived.Test.YtbmkkcpdlakgbaaDoorSoC1
import Derived.Test.YtbmkkcpdlakgbaaDoorMxRef
namespace Go.Proofs.YtbmkkcpdlakgbaaDoor
open Go.ChangeShapes Go.WideShapes Go.ChangeAt Go.RowKit
set_option linter.unusedVariables false

/-- A row made. -/
def MadeRow (n : Nat) (v : Nat → Fp.F) (w : World) (e : Ending) (w' : World) : Prop := ∃ A d, e = .returned (.slice A n d) ∧ Lies w' A (rowF n v) ∧ Kp w w'

set_option maxRecDepth 100000 in
set_option maxHeartbeats 6400000 in
theorem rTo_any (A X : Option Addr) (f : Nat → Nat → Fp.F) (x : Nat → Fp.F) (r c d e : Nat) (w : World) (ha : LiesM w A (Mx.matl r c f)) (hx : Lies w X (rowF c x)) (hr : r ≤ 1000) (hc : c ≤ 1000) :
    Calls Tryd.prog 11 #[.slice A r d, .slice X c e] w fun e w' => MadeRow r (Mx.tov c f x) w e w' := by
  have HA := Lib.hid ha
  have HX := Lib.hid hx
  clear ha hx
  go_enter Tryd.func11, Tryd.ntmps11
  go_wp2_with fail
  go_loopw [5, 6] (fun v i wr => ∃ k : Nat, k ≤ r ∧ i = .int .i64 (k : Int) ∧ Own wr w.heap.size v (rowF k (Mx.tov c f x)) ∧ Kp w wr) (fun _ i _ => r - (intOf i).toNat)
  case atStart => exact ⟨0, Nat.zero_le _, rfl, Own.none _ _, Kp.rfl' _⟩
  case round =>
    obtain ⟨k, hk, rfl, hu, hkq⟩ := hrel
    have HU := Lib.hid hu
    have HQ := Lib.hid hkq
    by_cases hlt : k < r
    · obtain ⟨w1, hw1⟩ : ∃ x, x = wr := ⟨_, rfl⟩
      subst hw1
      clear hu hkq
      go_wp2_with fail
      go_loopw [7, 8] (fun s i wz => ∃ p : Nat, p ≤ c ∧ i = .int .i64 (p : Int) ∧ s = .int .i64 ((Mx.sg p (fun j => f k j * x j)).val : Int) ∧ Drew w1 wz) (fun _ i _ => c - (intOf i).toNat)
      case atStart => exact ⟨0, Nat.zero_le _, rfl, rfl, Drew.refl _⟩
      case round =>
        obtain ⟨p, hp, rfl, rfl, hdr⟩ := hrel
        have HD := Lib.hid hdr
        by_cases hlt3 : p < c
        · have kz := HQ.out.trans hdr.kp
          obtain ⟨ad, A1, d1, rfl, _, x1, _, l1⟩ := (HA.out.keep kz).row hlt
          obtain ⟨ad1, rfl, _, x2⟩ := l1.el hlt3
          obtain ⟨xd, rfl, _, x4⟩ := (HX.out.keep kz).el hlt3
          have HSG := Lib.hid (show ((Mx.sg p (fun j => f k j * x j)).val : Int) + ((f k p).val : Int) * ((x p).val : Int) < 1000000000000 ∧ (((Mx.sg p (fun j => f k j * x j)).val : Int) + ((f k p).val : Int) * ((x p).val : Int)) % 9973 = ((Mx.sg (p + 1) (fun j => f k j * x j)).val : Int) by
            have b1 := gval (Mx.sg p (fun j => f k j * x j))
            have b2 := times_bound (f k p) (x p)
            exact ⟨by omega, Mx.val_more _ _ _⟩)
          have v0 := gval (Mx.sg p (fun j => f k j * x j))
          have v3 := times_bound (f k p) (x p)
          generalize ((Mx.sg p (fun j => f k j * x j)).val : Int) = u0 at *
          obtain ⟨u1, hu1⟩ : ∃ u1, u1 = ((Mx.sg (p + 1) (fun j => f k j * x j)).val : Int) := ⟨_, rfl⟩
          rw [← hu1] at HSG
          have HU1 := Lib.hid hu1
          generalize ((f k p).val : Int) = y at *
          generalize ((x p).val : Int) = z at *
          have hwm : IntKind.i64.wrap (y * z) = y * z := IntWalk.i64_in _ (by omega)
          have hwa : IntKind.i64.wrap (u0 + y * z) = u0 + y * z := IntWalk.i64_in _ (by omega)
          have MO := Lib.hid (fun w => (rMod_any (u0 + y * z) w (by omega) (by omega)))
          rw [HSG.out.2] at MO
          clear hdr kz l1 v0 v3 hu1
          go_wp2_with fail
          go_quiet ((first
            | (with_reducible exact quiet_here (MO.out _))
            | (with_reducible exact quiet_more (MO.out _))))
          go_wp2_with fail
          go_roundw
          case rel => exact ⟨p + 1, by omega, by go_num, by rw [HU1.out], HD.out.more _⟩
          case measure => simp [intOf]; omega
        · obtain rfl : p = c := by omega
          obtain ⟨wd, hwd⟩ : ∃ x, x = wr := ⟨_, rfl⟩
          subst hwd
          have hlen : (rowF k (Mx.tov p f x)).length + 1 ≤ 17000000000000 := by rw [Mx.len_row]; omega
          have HUd := Lib.hid (HU.out.kp HD.out.kp)
          have HQd := Lib.hid (HQ.out.trans HD.out.kp)
          have hsz := HQd.out.size
          have HSN := Lib.hid (show rowF (k + 1) (Mx.tov p f x) = rowF k (Mx.tov p f x) ++ [((Mx.sg p (fun j => f k j * x j)).val : Int)] from Mx.row_snoc k _)
          generalize ((Mx.sg p (fun j => f k j * x j)).val : Int) = z at *
          clear hdr
          go_wp2_with (at_builtin; refine wpList_push rfl _ _ rfl w.heap.size _ (rowF k (Mx.tov p f x)) z wd.heap.size 1 rfl rfl (HUd.out.new _) (by simp; done) hlen (Nat.le_trans hsz ((Kp.rfl' _).new _).size) ?_; intro v' w' h1 h2 _)
          have HU' := Lib.hid h1
          have HQ' := Lib.hid (own_below (HUd.out.new _) (HQd.out.new _) (Nat.le_trans hsz ((Kp.rfl' _).new _).size) h2)
          clear h1 h2
          go_wp2_with fail
          go_roundw
          case rel => exact ⟨k + 1, by omega, by go_num, by rw [HSN.out]; exact HU'.out, HQ'.out⟩
          case measure => simp [intOf]; omega
    · obtain rfl : k = r := by omega
      obtain ⟨A5, d5, rfl, hl5⟩ := hu.lies
      have HL := Lib.hid hl5
      rw [Mx.len_row]
      clear hu hkq hl5
      go_wp2_with fail
      go_ret
      exact ⟨A5, d5, rfl, HL.out, HQ.out⟩
end Go.Proofs.YtbmkkcpdlakgbaaDoor
