/- Contracts of package solve, third part: satisfy. -/
import Derived.Test.YtcgpommgldecfaaDoorSoC2
namespace Go.Proofs.YtcgpommgldecfaaDoor
open Go.ChangeShapes Go.WideShapes Go.ChangeAt Go.RowKit
set_option linter.unusedVariables false

/-- One more row is met; or there is no answer at all. -/
def Stepped (B0 B gx cx r c i : Nat) (f : Nat → Nat → Fp.F) (to : Nat → Fp.F) (b : List Nat) (w : World) (e : Ending) (w' : World) : Prop :=
  (∃ A n d G C x W, e = .returned (.tuple #[.slice A n d, .nilIface]) ∧ OwnM w' B (.slice A n d) G C (Mx.matl n c W) ∧ Own w' B0 (.slice (some ⟨gx, 0, none⟩) c cx) (rowF c x) ∧
    Mx.Srch c f to b (i + 1) x (Mx.wl n W) ∧ n ≤ 1000 ∧ Below B0 w w') ∨
  (e = .returned (.tuple #[.slice none 0 0, .iface 51 (.int .i64 5)]) ∧ Mx.NoAns r c f to ∧ Below B0 w w')

set_option maxRecDepth 100000 in
set_option maxHeartbeats 6400000 in
theorem satisfy_any {B0 B gx cx gp r c i n : Nat} {f gg W : Nat → Nat → Fp.F} {to x : Nat → Fp.F} {b : List Nat} {v : Value} {G C : Nat → Nat} (w : World) (hc : c ≤ 1000) (hn : n ≤ 1000) (hi : i < r)
    (st : Mx.Steps r c b gg) (er : Mx.Req r c f gg) (sr : Mx.Srch c f to b i x (Mx.wl n W)) (hv : Val w gp B0 c f i)
    (hx : Own w B0 (.slice (some ⟨gx, 0, none⟩) c cx) (rowF c x)) (hm : OwnM w B v G C (Mx.matl n c W)) (hgx : gx < B) (hB0 : B0 ≤ B) (hp1 : gp ≠ gx) (hp2 : v.ownBlock ≠ some gp) (hp3 : ∀ t, t < n → G t ≠ gp) :
    Calls Tryd.prog 28 #[.func (.func 42) #[] #[.pointer (some ⟨gp, 0, none⟩)], .int .i64 ((to i).val : Int), .slice (some ⟨gx, 0, none⟩) c cx, v] w fun e w' => Stepped B0 B gx cx r c i f to b w e w' := by
  have hxl := World.ownsRow.lt hx gx rfl
  have hgpl : gp < w.heap.size := by obtain ⟨A1, d1, h1, _⟩ := hv.ex; exact cell_lt h1
  obtain ⟨w1, hw1⟩ : ∃ w1, w1 = w.alloc (.cells #[.func (.func 42) #[] #[.pointer (some ⟨gp, 0, none⟩)]] 56) := ⟨_, rfl⟩
  have hk1 : Kp w w1 := by rw [hw1]; exact (Kp.rfl' w).new _
  have hbx : w1.cell? ⟨w.heap.size, 0, none⟩ = some (.func (.func 42) #[] #[.pointer (some ⟨gp, 0, none⟩)]) := by rw [hw1]; exact cell_made w _ _ _ 0 rfl
  obtain ⟨gb, hgb⟩ : ∃ gb, gb = w.heap.size := ⟨_, rfl⟩
  rw [← hgb] at hbx
  have hm1 := hm.kp hk1
  obtain ⟨A, d, rfl, hl1, _⟩ := hm1.lies
  rw [Mx.len_matl] at hm hp2 hm1 ⊢
  have hv1 := hv.keep hk1 (by omega)
  have hx1 := hx.kp hk1
  have WY := Lib.hid (ways_any A gb gp B0 n c d i f W w1 hc hn hbx hv1 (by have := hk1.size; omega) hl1)
  have VX := Lib.hid (value_any (some ⟨gx, 0, none⟩) gp B0 c cx i f x w1 hc hv1 (by have := hk1.size; omega) (own_at hx1))
  have K1 := Lib.hid hk1
  have HM := Lib.hid hm1
  have HX := Lib.hid hx1
  have HV := Lib.hid hv1
  have SR := Lib.hid sr
  have ST := Lib.hid st
  have ER := Lib.hid er
  have HW1 := Lib.hid hw1
  have GX := Lib.hid (show gx < B ∧ B0 ≤ gx ∧ gp ≠ gx ∧ B0 ≤ w.heap.size from ⟨hgx, hxl.1, hp1, by omega⟩)
  have GM := Lib.hid (show (Value.slice A n d).ownBlock ≠ some gp ∧ (∀ t, t < n → G t ≠ gp) ∧ (∀ t, t < n → B ≤ G t ∧ G t < gb) ∧ (∀ g, (Value.slice A n d).ownBlock = some g → B ≤ g ∧ g < gb) from
    ⟨hp2, hp3, fun t ht => by rw [hgb]; exact hm.lt (by rw [Mx.len_matl]; exact ht), fun g hg => by rw [hgb]; exact World.ownsRow.lt hm.top g hg⟩)
  have GB := Lib.hid (show gx < gb ∧ gp < gb by rw [hgb]; exact ⟨hxl.2, hgpl⟩)
  clear hxl hgpl hm hx hv hp1 hp2 hp3 hm1 hl1 hx1 hv1 st er sr hgx hB0 hk1
  clear hw1
  go_enter Tryd.func28, Tryd.ntmps28
  go_wp2_with fail
  rw [← HW1.out, ← hgb]
  clear hgb
  refine (WY.out).mono ?_; rintro e w' ⟨(⟨k, hk, h0, rfl⟩ | ⟨hz, rfl⟩), rfl⟩
  · -- a way moves
    have HN0 := Lib.hid h0
    clear h0
    obtain ⟨g, cap, hsl, _, hmx, _⟩ := ownM_some HM.out (by rw [Mx.len_matl]; omega)
    rw [Mx.len_matl] at hsl
    cases hsl
    have y1 := HM.out.weak.head hk
    have hhead := HM.out.weak.row k hk
    have htop := HM.out.weak.apartTop hk
    have DL := delete_any (k := k) (j := k + 1) w1 hk rfl HM.out
    obtain ⟨n1, hn1⟩ : ∃ n1, n1 = n - 1 := ⟨_, rfl⟩
    rw [show ((k + 1 : Nat) : Int) = (k : Int) + 1 by omega, ← hn1] at DL
    have DL := Lib.hid DL
    have HN1 := Lib.hid (show n = n1 + 1 by omega)
    have hn1000 : n1 ≤ 1000 := by omega
    have HSK := Lib.hid (show ∀ s, s < n1 → Mx.sk k s < n ∧ Mx.sk k s ≠ k from fun s hs => ⟨by unfold Mx.sk; split <;> omega, Mx.sk_ne k s⟩)
    have hg1 := GM.out.2.2.2 g rfl
    have hg2 : g ≠ gp := fun e => GM.out.1 (by rw [e]; rfl)
    have hgk := GM.out.2.2.1 k hk
    have hgk2 := GM.out.2.1 k hk
    have HGX := Lib.hid (show gx ≠ g ∧ G k ≠ gx ∧ gb ≠ g ∧ gb ≠ gx ∧ gb ≠ G k ∧ G k ≠ gp ∧ g ≠ gp ∧ B0 ≤ g by
      have := GX.out; have := GB.out
      exact ⟨by omega, by omega, by omega, by omega, by omega, hgk2, hg2, by omega⟩)
    have HTOP := Lib.hid htop
    have HHD := Lib.hid hhead
    clear hn1 hg1 hg2 hgk hgk2 htop hhead
    go_wp2_with fail
    refine (DL.out).mono ?_; rintro e w2 ⟨rfl, hm2, hs2⟩
    have hx2 := HX.out.save hs2 (fun b hb e => HGX.out.1 (by rw [← e]; exact Option.some.inj hb))
    have hway2 := HHD.out.save hs2 (fun b hb e => HTOP.out (by rw [← e]; exact Option.some.inj hb))
    have hv2 := HV.out.save hs2 (fun e => HGX.out.2.2.2.2.2.2.1 e.symm) (fun b hb => by rw [hb]; exact HGX.out.2.2.2.2.2.2.2) (by have := K1.out.size; have := GX.out; omega)
    have y2 := hs2.cell hbx HGX.out.2.2.1
    have B2 := Lib.hid (hs2.below (K1.out.mono GX.out.2.2.2) (by have := K1.out.size; have := GX.out; omega) (fun b hb => by rw [hb]; exact HGX.out.2.2.2.2.2.2.2))
    have MV := Lib.hid (move_any (to i) w2 hc hv2 hx2 hway2 HGX.out.2.1 GX.out.2.2.1 GX.out.2.1 HN0.out)
    have HM2 := Lib.hid hm2
    have HV2 := Lib.hid hv2
    have HWAY2 := Lib.hid hway2
    have Y2 := Lib.hid y2
    clear hm2 hs2 hx2 hway2 hv2 hbx y1
    go_wp2_with fail
    refine (MV.out).mono ?_; rintro e w3 ⟨rfl, hx3, hs3⟩
    have hb2s : B0 ≤ w2.heap.size := by have := B2.out.size; have := GX.out; omega
    have hm3 := HM2.out.save hs3 (fun b hb e => HGX.out.1 (by rw [← e]; exact (Option.some.inj hb).symm)) (fun s hs e => by
      rw [Mx.len_tab] at hs
      have := GM.out.2.2.1 _ (HSK.out s hs).1
      have := GX.out
      omega)
    have hway3 := HWAY2.out.save hs3 (fun b hb e => HGX.out.2.1 (by rw [← e]; exact Option.some.inj hb))
    have hv3 := HV2.out.save hs3 GX.out.2.2.1 (fun b hb => by rw [hb]; exact GX.out.2.1) hb2s
    have y3 := hs3.cell Y2.out HGX.out.2.2.2.1
    have B3 := Lib.hid (hs3.below B2.out hb2s (fun b hb => by rw [hb]; exact GX.out.2.1))
    have HM3 := Lib.hid hm3
    have HX3 := Lib.hid hx3
    have HV3 := Lib.hid hv3
    have HWAY3 := Lib.hid hway3
    have Y3 := Lib.hid y3
    have B3S := Lib.hid (show B0 ≤ w3.heap.size from Nat.le_trans hb2s hs3.size)
    clear hm3 hs3 hx3 hway3 hv3 y2 hb2s
    go_wp2_with fail
    go_loopw [47] (fun j wr => ∃ t : Nat, t ≤ n1 ∧ j = .int .i64 (t : Int) ∧ OwnM wr B (.slice (some ⟨g, 0, none⟩) n1 d) (fun s => G (Mx.sk k s)) (fun s => C (Mx.sk k s)) (Mx.matl n1 c fun s => if s < t then Mx.mv c f i 0 (W k) (W (Mx.sk k s)) else W (Mx.sk k s)) ∧ Save (fun b => ∃ s, s < n1 ∧ b = G (Mx.sk k s)) w3 wr) (fun j _ => n1 - (intOf j).toNat)
    case atStart => exact ⟨0, Nat.zero_le _, rfl, HM3.out.ext (fun s q _ _ => by dsimp only; rw [if_neg (by omega)]), Save.refl _ _⟩
    case round =>
      clear y3
      obtain ⟨t, ht, rfl, ho, hs⟩ := hrel
      by_cases hlt : t < n1
      · have z1 := ho.weak.head hlt
        have z2 := hs.cell Y3.out (fun ⟨s, h1, h2⟩ => by have h3 : gb = G (Mx.sk k s) := h2; have := GM.out.2.2.1 _ (HSK.out s h1).1; omega)
        have hv4 := HV3.out.save hs (fun ⟨s, h1, h2⟩ => GM.out.2.1 _ (HSK.out s h1).1 h2.symm) (fun b ⟨s, h1, h2⟩ => by have := GM.out.2.2.1 _ (HSK.out s h1).1; have := GX.out; omega) B3S.out
        have hway4 := HWAY3.out.save hs (fun b hb ⟨s, h1, h2⟩ => (by
          have e : G k = b := Option.some.inj hb
          exact HM.out.apart k _ (by rw [Mx.len_matl]; exact hk) (by rw [Mx.len_matl]; exact (HSK.out s h1).1) (fun e2 => (HSK.out s h1).2 e2.symm) (e.trans h2)))
        have hrow4 := ho.weak.row t hlt
        have MV4 := move_any (gt := G (Mx.sk k t)) (ct := C (Mx.sk k t)) (u := W (Mx.sk k t)) 0 wr hc hv4 (by rw [show rowF c (W (Mx.sk k t)) = Mx.row c (fun q => (((if t < t then Mx.mv c f i 0 (W k) (W (Mx.sk k t)) else W (Mx.sk k t)) q).val : Int)) by rw [if_neg (Nat.lt_irrefl t)]]; exact hrow4) hway4
          (fun e => HM.out.apart k _ (by rw [Mx.len_matl]; exact hk) (by rw [Mx.len_matl]; exact (HSK.out t hlt).1) (fun e2 => (HSK.out t hlt).2 e2.symm) e) (fun e => GM.out.2.1 _ (HSK.out t hlt).1 e.symm) (by have := GM.out.2.2.1 _ (HSK.out t hlt).1; have := GX.out; omega) HN0.out
        rw [show (((0 : Fp.F).val : Nat) : Int) = 0 from rfl] at MV4
        have MV4 := Lib.hid MV4
        have HO := Lib.hid ho
        have HS := Lib.hid hs
        clear ho hs hv4 hway4 hrow4
        go_wp2_with fail
        refine (MV4.out).mono ?_; rintro e w4 ⟨rfl, hr4, hs4⟩
        have HO4 := Lib.hid ((HO.out.turned hlt hr4 hs4).ext (f' := fun s q => (((if s < t + 1 then Mx.mv c f i 0 (W k) (W (Mx.sk k s)) else W (Mx.sk k s)) q).val : Int)) fun s q _ _ => by
          dsimp only
          by_cases e : s = t
          · subst e; rw [if_pos rfl, if_pos (by omega)]
          · rw [if_neg e]
            by_cases e2 : s < t
            · rw [if_pos e2, if_pos (by omega)]
            · rw [if_neg e2, if_neg (by omega)])
        have HS4 := Lib.hid (HS.out.trans (⟨hs4.os, hs4.tape, hs4.output, hs4.size, fun b hb hn => hs4.block b hb fun e => hn ⟨t, hlt, e⟩⟩ : Save (fun b => ∃ s, s < n1 ∧ b = G (Mx.sk k s)) wr w4))
        clear hr4 hs4
        go_wp2_with fail
        go_roundw
        case rel => exact ⟨t + 1, by omega, by go_num, HO4.out, HS4.out⟩
        case measure => simp [intOf]; omega
      · obtain rfl : t = n1 := by omega
        have hx4 := HX3.out.save hs (fun b hb ⟨s, h1, h2⟩ => (by
          have e : gx = b := Option.some.inj hb
          have := GM.out.2.2.1 _ (HSK.out s h1).1
          have := GX.out
          omega))
        have HB := Lib.hid (hs.below B3.out B3S.out (fun b ⟨s, h1, h2⟩ => by have := GM.out.2.2.1 _ (HSK.out s h1).1; have := GX.out; omega))
        have HX4 := Lib.hid hx4
        have HO := Lib.hid (ho.ext (f' := fun s q => ((Mx.mv c f i 0 (W k) (W (Mx.sk k s)) q).val : Int)) fun s q hs' _ => by dsimp only; rw [if_pos hs'])
        have HSR := Lib.hid (show Mx.Srch c f to b (i + 1) (Mx.mv c f i (to i) (W k) x) (Mx.wl t fun s => Mx.mv c f i 0 (W k) (W (Mx.sk k s))) from by
          have hlen : k < (Mx.wl n W).length := by rw [Mx.len_wl]; exact hk
          have h := SR.out.move k hlen (by rw [Mx.wl_at]; exact HN0.out)
          rw [Mx.wl_at] at h
          rw [show (Mx.wl n W).eraseIdx k = Mx.wl t fun s => W (Mx.sk k s) by
            have e := HN1.out
            rw [e]; exact Mx.wl_erase t W k (by omega), Mx.wl_map] at h
          exact h)
        clear ho hs hx4
        go_wp2_with fail
        go_ret2
        exact .inl ⟨_, _, _, _, _, _, _, rfl, HO.out, HX4.out, HSR.out, hn1000, HB.out⟩
  · -- none does
    have HZ := Lib.hid hz
    clear hz
    have HB := Lib.hid (K1.out.mono GX.out.2.2.2)
    go_wp2_with fail
    refine (VX.out).mono ?_; rintro e w' ⟨rfl, rfl⟩
    by_cases he : Mx.tov c f x i = to i
    · have HSR := Lib.hid (SR.out.keep (fun w hw => by obtain ⟨k, hk, rfl⟩ := Mx.wl_mem.1 hw; exact HZ.out k hk) he)
      have e1 : (((Mx.tov c f x i).val : Int) != ((to i).val : Int)) = false := by rw [he]; simp
      generalize ((Mx.tov c f x i).val : Int) = p1 at *
      generalize ((to i).val : Int) = p2 at *
      clear he
      go_wp2_with fail
      go_ret2
      exact .inl ⟨_, _, _, _, _, _, _, rfl, HM.out, HX.out, HSR.out, hn, HB.out⟩
    · have HNO := Lib.hid (SR.out.fail ST.out ER.out hi (fun w hw => by obtain ⟨k, hk, rfl⟩ := Mx.wl_mem.1 hw; exact HZ.out k hk) he)
      have e1 : (((Mx.tov c f x i).val : Int) != ((to i).val : Int)) = true := by
        rw [bne_iff_ne]
        exact fun e => he (Fin.ext (by omega))
      generalize ((Mx.tov c f x i).val : Int) = p1 at *
      generalize ((to i).val : Int) = p2 at *
      clear he
      go_wp2_with fail
      go_ret2
      exact .inr ⟨rfl, HNO.out, HB.out⟩
end Go.Proofs.YtcgpommgldecfaaDoor
