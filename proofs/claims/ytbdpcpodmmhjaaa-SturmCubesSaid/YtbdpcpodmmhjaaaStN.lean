/- Plain facts on the document's chain of a row of at most four factors from -20 to 20: all its divisions fit. No program is named here. -/
import Derived.Test.YtbdpcpodmmhjaaaStB
namespace Go.Proofs.Ytbdpcpodmmhjaaa.Stu
set_option linter.unusedVariables false

/-- What comes behind the first chain, where its last row is no number. -/
structure Again (f : List Int) : Prop where
  ne : lst (rst f) ≠ []
  tp : Tp (lst (rst f))
  fit : Fit (pl f) (lst (rst f))
  lo : 2 ≤ (dq (pl f) (lst (rst f))).length
  hi : (dq (pl f) (lst (rst f))).length ≤ 3
  tq : Tp (dq (pl f) (lst (rst f)))
  bn : Bn 56000 (dq (pl f) (lst (rst f)))
  fits : Fits (pl (dq (pl f) (lst (rst f)))) (pl (slp (dq (pl f) (lst (rst f)))))
theorem chain_fits {f : List Int} (hB : Bn 20 f) (h2 : 2 ≤ f.length) (h4 : f.length ≤ 4) (t : Tp f) : Fits (pl f) (pl (slp f)) ∧ (¬ (lst (rst f)).length < 2 → Again f) := by
  obtain ⟨l1, t1, l2, t2, _, hs⟩ := pl_slope h2 t
  have hb : pl (slp f) ≠ [] := fun e => by rw [e] at l2; simp at l2; omega
  have b1 := pl_bn hB
  have b2 := pl_bn (slp_bn (by omega) hB h4)
  have mk : ∀ d, lst (rst f) = d → d ≠ [] → Tp d → Fit (pl f) d → 2 ≤ f.length - d.length + 1 → f.length - d.length + 1 ≤ 3 → d.length ≤ f.length → Bn 56000 (dq (pl f) d) → Again f := fun d hd hn td hf hlo hhi hle hbn => by
    have lq := dq_len (pl f) d hn td t1 (by omega) (by omega)
    have tq := (split_val (pl f) d hn td (by omega)).2.2.2.1
    rw [l1] at lq
    refine ⟨by rw [hd]; exact hn, by rw [hd]; exact td, by rw [hd]; exact hf, by rw [hd]; omega, by rw [hd]; omega, by rw [hd]; exact tq, by rw [hd]; exact hbn, ?_⟩
    rw [hd]
    exact fits_small (M := 56000) (by omega) (by omega) hbn (by omega) (by omega) tq (by omega)
  rcases show f.length = 2 ∨ f.length = 3 ∨ f.length = 4 by omega with h | h | h
  · exact ⟨fits_small (M := 20) (by omega) (by omega) hB (by omega) (by omega) t (by omega), fun hn => absurd (rst_two h t) hn⟩
  · refine ⟨fits_small (M := 20) (by omega) (by omega) hB (by omega) (by omega) t (by omega), fun hn => ?_⟩
    rcases rst_three h t with h' | ⟨h0, hl⟩
    · exact absurd h' hn
    · exact mk _ hl hb t2 ⟨20, 60, by omega, by omega, b1, b2, by omega, by omega, .inr (.inl ⟨by omega, by omega⟩)⟩ (by omega) (by omega) (by omega) ((dr_bn1 (X := 20) (Y := 60) (by omega) (by omega) b1 b2 (by omega) (by omega)).2.le (by omega))
  · refine ⟨fits_four hB h t, fun hn => ?_⟩
    by_cases h0 : dr (pl f) (pl (slp f)) = []
    · have hl : lst (rst f) = pl (slp f) := by rw [rst_eq h2 t, lst_a h0]
      exact mk _ hl hb t2 ⟨20, 60, by omega, by omega, b1, b2, by omega, by omega, .inr (.inl ⟨by omega, by omega⟩)⟩ (by omega) (by omega) (by omega) ((dr_bn1 (X := 20) (Y := 60) (by omega) (by omega) b1 b2 (by omega) (by omega)).2.le (by omega))
    · obtain ⟨z1, _, z3, _⟩ := split_val (pl f) (pl (slp f)) hb t2 (by omega)
      have z4 := List.length_pos_iff.2 h0
      obtain ⟨r, hr⟩ : ∃ r, r = (dr (pl f) (pl (slp f))).map (- ·) := ⟨_, rfl⟩
      have lr : r.length = (dr (pl f) (pl (slp f))).length := by rw [hr, neg_len]
      have tr : Tp r := by rw [hr]; exact z3.neg
      have hrn : r ≠ [] := fun e => by rw [e] at lr; simp at lr; omega
      by_cases hr1 : r.length = 1
      · exact absurd (by rw [rst_eq h2 t, lst_b h0 (by rw [← hr]; exact dr_one hr1 tr (by omega)), ← hr]; omega) hn
      · by_cases h1 : dr (pl (slp f)) r = []
        · have hl : lst (rst f) = r := by rw [rst_eq h2 t, lst_b h0 (by rw [← hr]; exact h1), ← hr]
          obtain ⟨r0, r1, hre⟩ := len2 (show r.length = 2 by omega)
          obtain ⟨c0, c1, c2, c3, hf⟩ := len4 (show (pl f).length = 4 by omega)
          -- no common divisor
          have hg : Int.gcd r0 r1 = 1 := by
            have hd : dr (pl f) (pl (slp f)) = [-r0, -r1] := by
              have : (r.map (- ·)) = dr (pl f) (pl (slp f)) := by
                rw [hr, List.map_map]
                conv => rhs; rw [← List.map_id (dr (pl f) (pl (slp f)))]
                exact List.map_congr_left fun x _ => Int.neg_neg x
              rw [← this, hre]; rfl
            have g1 : gcl (dr (pl f) (pl (slp f))) = 1 := by
              unfold dr at h0 ⊢
              exact pl_gcl h0
            rw [hd] at g1
            have g2 : ((Int.gcd ((Int.gcd 0 (-r0) : Nat) : Int) (-r1) : Nat) : Int) = 1 := g1
            rw [Int.gcd_zero_left, Int.gcd_neg] at g2
            have : Int.gcd ((-r0).natAbs : Int) r1 = Int.gcd r0 r1 := by
              unfold Int.gcd
              rw [Int.natAbs_natCast, Int.natAbs_neg]
            rw [this] at g2
            omega
          -- it goes into the row
          obtain ⟨z, v, k, _, _, _, _, _, _, _, hv, _⟩ := sq4 (by omega) t1 (by omega) t2 hs hr (by omega) tr h1
          have hr1' : r1 ≠ 0 := by have := tr hrn; rw [hre] at this; exact this
          obtain ⟨y, hy⟩ := root_of (q0 := r0) hr1'
          -- the row comes to 0 there
          have ay : iv (pl f) y = 0 := by
            obtain ⟨_, _, _, _, c, u, e, hc, hu, he, hv1⟩ := split_val (pl f) (pl (slp f)) hb t2 (by omega)
            obtain ⟨_, _, _, _, c', u', e', hc', hu', he', hv2⟩ := split_val (pl (slp f)) r hrn tr (by omega)
            have ir : iv r y = 0 := by rw [hre, iv2, hy]; grind
            have hby : iv (pl (slp f)) y = 0 := by
              have := hv2 y
              rw [h1, iv_nil, ir] at this
              exact cancel (a := c') (by grind) (by grind)
            have hdy : iv (dr (pl f) (pl (slp f))) y = 0 := by
              have : iv r y = -(iv (dr (pl f) (pl (slp f))) y) := by rw [hr, iv_neg]
              rw [ir] at this
              grind
            have := hv1 y
            rw [hby, hdy] at this
            exact cancel (a := c) (by grind) (by grind)
          have id : c3 * (r0 * r0 * r0) - c2 * (r0 * r0 * r1) + c1 * (r0 * (r1 * r1)) - c0 * (r1 * r1 * r1) = 0 := by
            refine Rat.intCast_inj.1 ?_
            rw [hf, iv4] at ay
            have : ((c3 * (r0 * r0 * r0) - c2 * (r0 * r0 * r1) + c1 * (r0 * (r1 * r1)) - c0 * (r1 * r1 * r1) : Int) : Rat) = -((r1 : Rat) * r1 * r1 * ((c0 : Rat) + y * c1 + y * y * c2 + y * y * y * c3)) := by
              rw [Rat.intCast_sub, Rat.intCast_add, Rat.intCast_sub, Rat.intCast_mul, Rat.intCast_mul, Rat.intCast_mul, Rat.intCast_mul, Rat.intCast_mul, Rat.intCast_mul, Rat.intCast_mul, Rat.intCast_mul, Rat.intCast_mul, Rat.intCast_mul, Rat.intCast_mul, Rat.intCast_mul, hy]
              clear ay hv
              grind
            rw [this, ay]
            show _ = (0 : Rat)
            grind
          have hc3 : c3 ≠ 0 := by have := t1 (fun e => by rw [e] at l1; simp at l1; omega); rw [hf] at this; exact this
          have b1' := b1
          rw [hf] at b1'
          have lb := line_bd hg (m := 20) (by omega) hc3 (b1' c0 (by simp)) (b1' c1 (by simp)) (b1' c2 (by simp)) (b1' c3 (by simp)) id
          have rb : Bn 20 r := by
            rw [hre]
            intro w hw
            rcases List.mem_cons.1 hw with rfl | hw
            · exact lb.1
            · rw [List.mem_singleton.1 hw]; exact lb.2
          exact mk _ hl hrn tr ⟨20, 20, by omega, by omega, b1, rb, by omega, by omega, .inr (.inr (.inr ⟨by omega, by omega, by omega⟩))⟩ (by omega) (by omega) (by omega) ((dq_bn2 (X := 20) (Y := 20) (by omega) (by omega) b1 rb (by omega) (by omega)).le (by omega))
        · obtain ⟨y1, _, y3, _⟩ := split_val (pl (slp f)) r hrn tr (by omega)
          have y4 := List.length_pos_iff.2 h1
          exact absurd (by
            rw [rst_eq h2 t, lst_c h0 hr h1 (dr_one (by rw [neg_len]; omega) y3.neg (by omega)), neg_len]
            omega) hn

end Go.Proofs.Ytbdpcpodmmhjaaa.Stu
