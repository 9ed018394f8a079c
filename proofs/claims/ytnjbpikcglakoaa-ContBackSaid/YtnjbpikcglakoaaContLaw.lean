/- The plain laws of package cont: the closed fact, ContBack, ContNext, ContBest. -/
import Derived.Test.YtnjbpikcglakoaaSameF
import Derived.Test.YtnjbpikcglakoaaRefG
namespace Go.Proofs.Ytnjbpikcglakoaa
open Go.ChangeShapes Go.WideShapes Go.ChangeAt Go.RowKit
open Cont
set_option linter.unusedVariables false

theorem fact_terms : TermsAns 43 30 0 [1, 2, 3, 4] := by
  refine .inr ⟨by decide, rfl, ?_⟩
  show _ = terms 43 30
  rw [terms_pos 43 30 (by decide)]
  show _ = _ :: terms 30 13
  rw [terms_pos 30 13 (by decide)]
  show _ = _ :: _ :: terms 13 4
  rw [terms_pos 13 4 (by decide)]
  show _ = _ :: _ :: _ :: terms 4 1
  rw [terms_pos 4 1 (by decide)]
  show _ = _ :: _ :: _ :: _ :: terms 1 0
  rw [terms_zero]
  rfl

theorem fact_near : NearAns [1, 2, 3] 0 [(1, 1), (3, 2), (10, 7)] := by
  refine .inr (.inr (.inr (.inr ⟨by decide, by decide, ?_, ?_, rfl, rfl⟩)))
  · intro k hk
    have : k = 0 ∨ k = 1 ∨ k = 2 := by simp at hk; omega
    rcases this with rfl | rfl | rfl <;> simp
  · intro k hk
    have : k = 0 ∨ k = 1 ∨ k = 2 := by simp at hk; omega
    rcases this with rfl | rfl | rfl <;> decide

set_option maxHeartbeats 800000 in
theorem fact_any (w : World) : Calls Try.prog 6 #[] w fun e w' => e = .returned (.bool true) ∧ Kp w w' := by
  have HT := Lib.hid (fun w => terms_any 43 30 w)
  go_enter Try.func6, Try.ntmps6
  go_wp2_with fail
  refine (HT.out _).mono ?_; rintro e w1 ⟨c, l, v, hans, rfl, ho, hk⟩
  obtain ⟨rfl, rfl⟩ := termsAns_one fact_terms hans
  rw [show errOf 0 = .nilIface from rfl]
  obtain ⟨A, ca, rfl, hl⟩ := ho.lies
  have HL := Lib.hid hl
  have HK := Lib.hid hk
  clear hl hk ho hans HT
  have HC := Lib.hid (near_any (some ⟨w1.heap.size, 0, none⟩) [1, 2, 3] 3 (w1.alloc (.cells #[.int .i64 1, .int .i64 2, .int .i64 3] 3)) (lies_new w1 3 [1, 2, 3]) (by decide))
  go_wp2_with fail
  refine (HC.out).mono ?_; rintro e w2 ⟨cc, fs, v, hans, rfl, ho, hk⟩
  obtain ⟨rfl, rfl⟩ := near_one fact_near hans
  rw [show errOf 0 = .nilIface from rfl]
  obtain ⟨B, cb, rfl, hl⟩ := ho.lies
  have HB := Lib.hid hl
  have HL2 := Lib.hid ((HL.out.keep ((Kp.rfl' w1).new _)).keep hk)
  have HK2 := Lib.hid ((HK.out.new _).trans hk)
  clear hl hk ho hans HC HL HK
  have HI := Lib.hid (ints_any A (some ⟨w2.heap.size, 0, none⟩) [1, 2, 3, 4] [1, 2, 3, 4] ca 4 (w2.alloc (.cells #[.int .i64 1, .int .i64 2, .int .i64 3, .int .i64 4] 3)) (HL2.out.keep ((Kp.rfl' w2).new _)) (lies_new w2 3 [1, 2, 3, 4]) (by decide) (by decide))
  go_wp2_with fail
  refine (HI.out).mono ?_; rintro e w3 ⟨ht, hk⟩
  obtain rfl := tells_yes ht trivial
  have HK3 := Lib.hid ((HK2.out.new _).trans hk)
  have HB3 := Lib.hid ((HB.out.keep ((Kp.rfl' w2).new _)).keep hk)
  clear hk ht HI HK2 HB HL2
  have HF := Lib.hid (fracs_any B (some ⟨w3.heap.size, 0, none⟩) [(1, 1), (3, 2), (10, 7)] [(1, 1), (3, 2), (10, 7)] cb 3 (w3.alloc (.cells #[.int .i64 1, .int .i64 1, .int .i64 3, .int .i64 2, .int .i64 10, .int .i64 7] 23)) (HB3.out.keep ((Kp.rfl' w3).new _))
    (lies_new w3 23 (flat [(1, 1), (3, 2), (10, 7)])) (by decide) (by decide))
  go_wp2_with fail
  refine (HF.out).mono ?_; rintro e w4 ⟨ht, hk⟩
  obtain rfl := tells_yes ht trivial
  have HK4 := Lib.hid ((HK3.out.new _).trans hk)
  go_wp2_with fail
  go_ret
  exact ⟨rfl, HK4.out⟩

theorem back_out (n d : Int) (w : World) (h : ¬ OkF n d) :
    Calls Try.prog 3 #[.agg #[.int .i64 n, .int .i64 d]] w fun e w' => e = .returned (.bool true) ∧ Kp w w' := by
  have HF := Lib.hid fact_any
  have HT := Lib.hid (fun w => terms_out n d w h)
  clear h
  go_enter Try.func3, Try.ntmps3
  go_wp2_with fail
  refine (HF.out _).mono ?_; rintro e w1 ⟨rfl, hk⟩
  have hb := (Box.made w (n, d) 23 w.heap.size rfl).keep hk
  have h1 := hb.c1
  have h2 := hb.c2
  have HK := Lib.hid (((Kp.rfl' w).new _).trans hk)
  simp only [] at h1 h2
  clear hb hk
  go_wp2_with fail
  refine (HT.out _).mono ?_; rintro e w2 ⟨rfl, hk⟩
  have HK2 := Lib.hid (HK.out.trans hk)
  clear hk
  go_wp2_with fail
  go_ret
  exact ⟨rfl, HK2.out⟩

set_option maxHeartbeats 1600000 in
theorem back_in (N D : Nat) (w : World) (a1 : N ≤ 1000000) (a2 : 1 ≤ D) (a3 : D ≤ 1000000) :
    Calls Try.prog 3 #[.agg #[.int .i64 (N : Int), .int .i64 (D : Int)]] w fun e w' => e = .returned (.bool true) ∧ Kp w w' := by
  have HF := Lib.hid fact_any
  have HT := Lib.hid (fun w => terms_in N D w a1 a2 a3)
  have HNE := Lib.hid (terms_near N D a2 a1 a3)
  have hfew := terms_few N D a2 a1 a3
  have HG := Lib.hid (fun w => refGcd_any D (N : Int) (D : Int) w (by omega) (by omega) (by omega) (by omega) (by omega))
  obtain ⟨k, hk⟩ : ∃ k, (terms N D).length = k + 1 := ⟨(terms N D).length - 1, by have := terms_some N D a2; omega⟩
  have HE := Lib.hid (terms_end N D a2 k hk)
  have HB := Lib.hid (terms_back N D k hk)
  obtain ⟨l, hl⟩ : ∃ l, l = terms N D := ⟨_, rfl⟩
  rw [← hl] at HT HNE hfew HE HB hk
  have HKL := Lib.hid hk
  have hN0 : (0 : Int) ≤ (N : Int) := by omega
  have hN1 : (N : Int) ≤ 1000000 := by omega
  have hD0 : (0 : Int) ≤ (D : Int) := by omega
  have hD1 : (D : Int) ≤ 1000000 := by omega
  clear hl a1 a2 a3
  go_enter Try.func3, Try.ntmps3
  go_wp2_with fail
  refine (HF.out _).mono ?_; rintro e w1 ⟨rfl, hk1⟩
  have hb := (Box.made w ((N : Int), (D : Int)) 23 w.heap.size rfl).keep hk1
  have h1 := hb.c1
  have h2 := hb.c2
  have HBX := Lib.hid hb
  have HK := Lib.hid (((Kp.rfl' w).new _).trans hk1)
  simp only [] at h1 h2
  clear hb hk1
  go_wp2_with fail
  refine (HT.out _).mono ?_; rintro e w2 ⟨v, rfl, ho, hk2⟩
  obtain ⟨A, ca, rfl, hls⟩ := ho.lies
  have HC := Lib.hid (near_any A l ca w2 hls (by omega))
  have HL := Lib.hid hls
  have HBX2 := Lib.hid (HBX.out.keep hk2)
  have HK2 := Lib.hid (HK.out.trans hk2)
  rw [hk] at HC ⊢
  clear ho hls hk2 h1 h2 HK HBX HT HF
  go_wp2_with fail
  refine (HC.out).mono ?_; rintro e w3 ⟨cc, fs, v, hans, rfl, ho, hk3⟩
  obtain ⟨rfl, rfl⟩ := near_one HNE.out hans
  rw [show errOf 0 = .nilIface from rfl]
  obtain ⟨B, cb, rfl, hls⟩ := ho.lies
  obtain ⟨ld, rfl, hld, hc⟩ := (HL.out.keep hk3) k (by omega)
  obtain ⟨ad, rfl, _, hc1, hc2⟩ := hls.at k (by rw [nearsUp_len]; omega)
  rw [nearsUp_at l _ k (by omega)] at hc1 hc2
  rw [nearsUp_len, hk]
  have hc3 := pair_at hc2
  rw [Nat.mul_comm] at hc1
  have hb3 := HBX2.out.keep hk3
  have h1 := hb3.c1
  have h2 := hb3.c2
  simp only [] at h1 h2
  have HK3 := Lib.hid (HK2.out.trans hk3)
  have hlt3 := hb3.lt
  obtain ⟨f, hf⟩ : ∃ f, f = cv l k := ⟨_, rfl⟩
  obtain ⟨x, hx⟩ : ∃ x, x = l.getD k 0 := ⟨_, rfl⟩
  obtain ⟨G, hG⟩ : ∃ G : Int, G = (Int.gcd (N : Int) (D : Int) : Int) := ⟨_, rfl⟩
  rw [← hf] at hc1 hc3 HB
  rw [← hx] at hc HE
  rw [← hG] at HG HB
  obtain ⟨p, q⟩ := f
  have b1 : p * G = N := HB.out.1
  have b2 : q * G = D := HB.out.2
  simp only [] at hc1 hc3
  clear hc2 hb3 hf hx hG HB ho hls hans hk3 hk HBX2 HK2 HL HC HNE
  have z1 : ((k : Int) + 1 == 0) = false := by rw [beq_eq_false_iff_ne]; omega
  have hw : wrap64 (k : Int) = k := wrap64_id (by have := HKL.out; omega)
  have hlt0 : (0 : Int) ≤ (k : Int) := by omega
  have e1 : (p * G == (N : Int)) = true := by rw [b1]; simp
  have e2 : (q * G == (D : Int)) = true := by rw [b2]; simp
  have bb1 : 0 ≤ p * G ∧ p * G ≤ 1000000 := by rw [b1]; exact ⟨hN0, hN1⟩
  have bb2 : 0 ≤ q * G ∧ q * G ≤ 1000000 := by rw [b2]; exact ⟨hD0, hD1⟩
  obtain ⟨bb3, bb4⟩ := bb1
  obtain ⟨bb5, bb6⟩ := bb2
  have hc4 : (w3.alloc (.cells #[.int .i64 p, .int .i64 q] 23)).cell? (ld.add k) = some (.int .i64 x) := (((Kp.rfl' w3).new _).cell (by rw [block_add]; exact hld)).trans hc
  have HW := Lib.hid e1
  have HW2 := Lib.hid e2
  clear b1 b2 e1 e2
  go_wp2_with fail
  refine (HG.out _).mono ?_; rintro e w4 ⟨rfl, rfl⟩
  have e1 := HW.out
  have e2 := HW2.out
  by_cases hk0 : k = 0
  · have z3 : ((k : Int) + 1 == 1) = true := by rw [beq_iff_eq]; omega
    clear hk0
    go_wp2_with fail
    go_ret
    exact ⟨rfl, HK3.out.new _⟩
  · have z3 : ((k : Int) + 1 == 1) = false := by rw [beq_eq_false_iff_ne]; omega
    have hx1 : 1 < x := by rcases HE.out with h | h; exact absurd h hk0; exact h
    clear hk0
    go_wp2_with fail
    go_ret
    exact ⟨rfl, HK3.out.new _⟩

theorem walk_ContBack (n d : Int) (w : World) :
    Calls Try.prog 3 #[.agg #[.int .i64 n, .int .i64 d]] w fun e w' => e = .returned (.bool true) ∧ Kp w w' := by
  by_cases h : OkF n d
  · obtain ⟨a1, a2, a3, a4⟩ := h
    obtain ⟨N, rfl⟩ : ∃ N : Nat, n = N := ⟨n.toNat, by omega⟩
    obtain ⟨D, rfl⟩ : ∃ D : Nat, d = D := ⟨d.toNat, by omega⟩
    exact back_in N D w (by omega) (by omega) (by omega)
  · exact back_out n d w h

end Go.Proofs.Ytnjbpikcglakoaa
