/- Several texts, one behind the other: ReC1, Clone, Rnd, KeN, ReC2, BoxM, ReC3, HdP, DeM, DeC1, Sqr, DeC2, DeC3, ReC4, ReFact, PolC1, PolC2, PolC3, PolC4, FldRef, PolLaw, LawIn, ReRoot. -/
import Derived.Test.YtnjhdedhobgplaaResultRootsProofG1
import Derived.Test.YtnjhdedhobgplaaResultRootsProofG2
import Derived.BigQuiet
import Derived.RangeFuncNested
import Derived.RangeFuncBound
import Derived.RangeFuncCalls
import Derived.RangeFuncLeaves
import Derived.Shelf.Abstract
import Derived.WalkKit
import Derived.OwnWalkIn
import Derived.TacticsInMore
import Derived.LoopNIn
import Derived.LoopIn
import Derived.OrdersIn
import Derived.StillTailTactics
import Derived.Deep.RegionHeld3
import Derived.RangeFuncBox
import Derived.Deep.LoopGhost
import Derived.Laws.CopyOwn

/- Contracts of package result, first part: outside, degree, slices.IndexFunc and ContainsFunc of it, Check. -/
namespace Go.Proofs.Ytnjhdedhobgplaa
open Go.ChangeShapes Go.WideShapes Go.ChangeAt Go.RowKit
set_option linter.unusedVariables false

theorem out_no (m : Int) (w : World) (h0 : 0 ≤ m) (h1 : m ≤ 9972) : Calls Try.prog 40 #[.int .i64 m] w fun e w' => e = .returned (.bool false) ∧ w = w' := by
  have h2 : ¬ m < 0 := by omega
  have h3 : ¬ 9973 ≤ m := by omega
  go_enter Try.func40, Try.ntmps40
  go_wp2
  go_ret
  exact ⟨rfl, rfl⟩
theorem out_yes (m : Int) (w : World) (h : ¬ (0 ≤ m ∧ m ≤ 9972)) : Calls Try.prog 40 #[.int .i64 m] w fun e w' => e = .returned (.bool true) ∧ w = w' := by
  by_cases h2 : m < 0
  · clear h
    go_enter Try.func40, Try.ntmps40
    go_wp2
    go_ret
    exact ⟨rfl, rfl⟩
  · have h3 : 9973 ≤ m := by omega
    clear h
    go_enter Try.func40, Try.ntmps40
    go_wp2
    go_ret
    exact ⟨rfl, rfl⟩
theorem deg_any (A : Option Addr) (n k c : Nat) (w : World) (hn : n = k + 1) (hb : n ≤ 9223372036854775807) :
    Calls Try.prog 29 #[.slice A n c] w fun e w' => e = .returned (.int .i64 (k : Int)) ∧ w = w' := by
  have hk : (n : Int) - 1 = (k : Int) := by omega
  have hw : IntKind.i64.wrap (k : Int) = (k : Int) := IntWalk.i64_in _ (by omega)
  clear hn
  go_enter Try.func29, Try.ntmps29
  go_wp2
  go_ret
  exact ⟨by first | rfl | rw [hk], rfl⟩

set_option maxHeartbeats 800000 in
theorem reidx_any (A : Option Addr) (l : List Int) (n d : Nat) (w : World) (hl : Lies w A l) (hn : l.length = n) (hb : n ≤ 9223372036854775807) :
    Calls Try.prog 43 #[.slice A n d, .func (.func 40) #[] #[]] w fun e w' =>
      ((∃ k : Nat, ¬ AllIn l 0 9972 ∧ k < n ∧ e = .returned (.int .i64 (k : Int))) ∨ (AllIn l 0 9972 ∧ e = .returned (.int .i64 (-1)))) ∧ w = w' := by
  have HL := Lib.hid hl
  have HN := Lib.hid hn
  clear hl hn
  go_enter Try.func43, Try.ntmps43
  go_wp2_with fail
  go_loop [8] (fun j => ∃ k : Nat, k ≤ n ∧ j = .int .i64 (k : Int) ∧ ∀ t, t < k → 0 ≤ l.getD t 0 ∧ l.getD t 0 ≤ 9972) (fun j => n - (intOf j).toNat)
  case atStart => exact ⟨0, Nat.zero_le _, rfl, fun t ht => absurd ht (by omega)⟩
  case round =>
    obtain ⟨k, hk, rfl, hz⟩ := hrel
    have HZ := Lib.hid hz
    clear hz
    by_cases hlt : k < n
    · obtain ⟨ad, rfl, _, x1⟩ := HL.out k (by have := HN.out; omega)
      obtain ⟨x, hx⟩ : ∃ x, x = l.getD k 0 := ⟨_, rfl⟩
      rw [← hx] at x1
      have HX := Lib.hid hx
      clear hx
      by_cases h0 : 0 ≤ x ∧ x ≤ 9972
      · have HZ2 := Lib.hid (show ∀ t, t < k + 1 → 0 ≤ l.getD t 0 ∧ l.getD t 0 ≤ 9972 from fun t ht => by
          by_cases e : t = k
          · rw [e, ← HX.out]; exact h0
          · exact HZ.out t (by omega))
        have M := Lib.hid (fun w => out_no x w h0.1 h0.2)
        clear h0
        go_wp2_with fail
        refine (M.out _).mono ?_; rintro e w' ⟨rfl, rfl⟩
        go_wp2_with fail
        go_round
        case rel => exact ⟨k + 1, by omega, by go_num, HZ2.out⟩
        case measure => simp [intOf]; omega
      · have M := Lib.hid (fun w => out_yes x w h0)
        have HQ := Lib.hid (show ¬ AllIn l 0 9972 from fun h => h0 (by have := h k (by have := HN.out; omega); rw [← HX.out] at this; exact this))
        clear h0
        go_wp2_with fail
        refine (M.out _).mono ?_; rintro e w' ⟨rfl, rfl⟩
        go_wp2_with fail
        go_ret
        exact ⟨.inl ⟨k, HQ.out, hlt, rfl⟩, rfl⟩
    · obtain rfl : k = n := by omega
      have HQ := Lib.hid (show AllIn l 0 9972 from fun t ht => HZ.out t (by have := HN.out; omega))
      go_wp2_with fail
      go_ret
      exact ⟨.inr ⟨HQ.out, rfl⟩, rfl⟩

theorem recf_yes (A : Option Addr) (l : List Int) (n d : Nat) (w : World) (hl : Lies w A l) (hn : l.length = n) (hb : n ≤ 9223372036854775807) (h : ¬ AllIn l 0 9972) :
    Calls Try.prog 39 #[.slice A n d, .func (.func 40) #[] #[]] w fun e w' => e = .returned (.bool true) ∧ w = w' := by
  have M := Lib.hid (reidx_any A l n d w hl hn hb)
  have H := Lib.hid h
  clear hl hn h
  go_enter Try.func39, Try.ntmps39
  go_wp2_with fail
  refine (M.out).mono ?_; rintro e w' ⟨⟨k, _, hk, rfl⟩ | ⟨h, _⟩, rfl⟩
  · go_wp2_with fail
    go_ret
    exact ⟨rfl, rfl⟩
  · exact absurd h H.out
theorem recf_no (A : Option Addr) (l : List Int) (n d : Nat) (w : World) (hl : Lies w A l) (hn : l.length = n) (hb : n ≤ 9223372036854775807) (h : AllIn l 0 9972) :
    Calls Try.prog 39 #[.slice A n d, .func (.func 40) #[] #[]] w fun e w' => e = .returned (.bool false) ∧ w = w' := by
  have M := Lib.hid (reidx_any A l n d w hl hn hb)
  have H := Lib.hid h
  clear hl hn h
  go_enter Try.func39, Try.ntmps39
  go_wp2_with fail
  refine (M.out).mono ?_; rintro e w' ⟨⟨k, h, hk, rfl⟩ | ⟨_, rfl⟩, rfl⟩
  · exact absurd H.out h
  · go_wp2_with fail
    go_ret
    exact ⟨rfl, rfl⟩

theorem reChk_none (A B : Option Addr) (L M : List Int) (c d : Nat) (w : World) (h : L.length = 0 ∨ M.length = 0) :
    Calls Try.prog 28 #[.slice A L.length c, .slice B M.length d] w fun e w' => e = .returned (errOf (recd L M)) ∧ w = w' := by
  rw [recd_none h]
  by_cases h0 : L.length = 0
  · rw [h0]
    clear h h0
    go_enter Try.func28, Try.ntmps28
    go_wp2
    go_ret
    exact ⟨rfl, rfl⟩
  · rw [show M.length = 0 by omega]
    generalize L.length = n at *
    have e0 : ((n : Int) == 0) = false := by rw [beq_eq_false_iff_ne]; omega
    clear h h0
    go_enter Try.func28, Try.ntmps28
    go_wp2
    go_ret
    exact ⟨rfl, rfl⟩
theorem reChk_range (A B : Option Addr) (L M : List Int) (n m c d : Nat) (w : World) (ha : Lies w A L) (hb : Lies w B M) (hL : L.length = n) (hM : M.length = m) (bL : n ≤ 9223372036854775807) (bM : m ≤ 9223372036854775807) (h0 : ¬ (n = 0 ∨ m = 0)) (h : ¬ (AllIn L 0 9972 ∧ AllIn M 0 9972)) :
    Calls Try.prog 28 #[.slice A n c, .slice B m d] w fun e w' => e = .returned (errOf (recd L M)) ∧ w = w' := by
  rw [recd_range (by rw [hL, hM]; exact h0) h]
  have e0 : ((n : Int) == 0) = false := by rw [beq_eq_false_iff_ne]; omega
  have e1 : ((m : Int) == 0) = false := by rw [beq_eq_false_iff_ne]; omega
  by_cases h1 : AllIn L 0 9972
  · have h2 : ¬ AllIn M 0 9972 := fun h3 => h ⟨h1, h3⟩
    have C1 := Lib.hid (recf_no A L n c w ha hL bL h1)
    have C2 := Lib.hid (recf_yes B M m d w hb hM bM h2)
    clear ha hb hL hM h0 h h1 h2
    go_enter Try.func28, Try.ntmps28
    go_wp2_with fail
    refine (C1.out).mono ?_; rintro e w' ⟨rfl, rfl⟩
    go_wp2_with fail
    refine (C2.out).mono ?_; rintro e w' ⟨rfl, rfl⟩
    go_wp2_with fail
    go_ret
    exact ⟨rfl, rfl⟩
  · have C1 := Lib.hid (recf_yes A L n c w ha hL bL h1)
    clear ha hb hL hM h0 h h1
    go_enter Try.func28, Try.ntmps28
    go_wp2_with fail
    refine (C1.out).mono ?_; rintro e w' ⟨rfl, rfl⟩
    go_wp2_with fail
    go_ret
    exact ⟨rfl, rfl⟩
theorem wrap_far (n m : Nat) (bL : n ≤ 9223372036854775807) (bM : m ≤ 9223372036854775807) (h : ¬ (1 ≤ n + m ∧ n + m ≤ 5)) : IntKind.i64.wrap ((n : Int) + (m : Int)) < 1 ∨ 5 < IntKind.i64.wrap ((n : Int) + (m : Int)) := by
  rw [IntKind.wrap_i64]; omega
/-- What stands last in a row that comes in. -/
theorem Lies.last {w : World} {A : Option Addr} {L : List Int} {k : Nat} (h : Lies w A L) (hL : L.length = k + 1) : ∃ ad, A = some ad ∧ w.cell? (ad.add k) = some (.int .i64 (L.getD (L.length - 1) 0)) := by
  obtain ⟨ad, rfl, _, x⟩ := h k (by omega)
  refine ⟨ad, rfl, ?_⟩
  rw [show L.length - 1 = k by omega]
  exact x

set_option maxHeartbeats 800000 in
theorem reChk_last (A B : Option Addr) (L M : List Int) (n m k j c d : Nat) (w : World) (ha : Lies w A L) (hb : Lies w B M) (hL : L.length = n) (hM : M.length = m) (hn : n = k + 1) (hm : m = j + 1)
    (bL : n ≤ 9223372036854775807) (bM : m ≤ 9223372036854775807) (h : AllIn L 0 9972 ∧ AllIn M 0 9972) :
    Calls Try.prog 28 #[.slice A n c, .slice B m d] w fun e w' => e = .returned (errOf (recd L M)) ∧ w = w' := by
  have h0 : ¬ (L.length = 0 ∨ M.length = 0) := by omega
  have C1 := Lib.hid (recf_no A L n c w ha hL bL h.1)
  have C2 := Lib.hid (recf_no B M m d w hb hM bM h.2)
  have D1 := Lib.hid (fun w => deg_any A n k c w hn bL)
  have D2 := Lib.hid (fun w => deg_any B m j d w hm bM)
  have E3 := Lib.hid (recd_shape h0 h)
  have E4 := Lib.hid (recd_full h0 h)
  have E0 := Lib.hid (recd_ok h0 h)
  have SZ := Lib.hid (show 3 ≤ L.length + M.length ∧ L.length + M.length ≤ 7 ↔ 1 ≤ k + j ∧ k + j ≤ 5 from by omega)
  have W := Lib.hid (wrap_far k j (by omega) (by omega))
  obtain ⟨a, rfl, xa⟩ := ha.last (hL.trans hn)
  obtain ⟨b, rfl, xb⟩ := hb.last (hM.trans hm)
  have e0 : ((n : Int) == 0) = false := by rw [beq_eq_false_iff_ne]; omega
  have e1 : ((m : Int) == 0) = false := by rw [beq_eq_false_iff_ne]; omega
  have k0 : k < n := by omega
  have j0 : j < m := by omega
  generalize L.getD (L.length - 1) 0 = x at *
  generalize M.getD (M.length - 1) 0 = y at *
  clear ha hb hL hM hn hm h h0
  by_cases hx : x = 0
  · have E := Lib.hid (E3.out (.inl hx))
    rw [hx] at xa
    clear hx E3 E4 E0 SZ
    go_enter Try.func28, Try.ntmps28
    go_wp2_with fail
    refine (C1.out).mono ?_; rintro e w' ⟨rfl, rfl⟩
    go_wp2_with fail
    refine (C2.out).mono ?_; rintro e w' ⟨rfl, rfl⟩
    go_wp2_with fail
    refine (D1.out _).mono ?_; rintro e w' ⟨rfl, rfl⟩
    go_wp2_with fail
    go_ret
    exact ⟨by rw [E.out]; rfl, rfl⟩
  · have ex : (x == 0) = false := by rw [beq_eq_false_iff_ne]; exact hx
    by_cases hy : y = 0
    · have E := Lib.hid (E3.out (.inr hy))
      rw [hy] at xb
      clear hx hy E3 E4 E0 SZ
      go_enter Try.func28, Try.ntmps28
      go_wp2_with fail
      refine (C1.out).mono ?_; rintro e w' ⟨rfl, rfl⟩
      go_wp2_with fail
      refine (C2.out).mono ?_; rintro e w' ⟨rfl, rfl⟩
      go_wp2_with fail
      refine (D1.out _).mono ?_; rintro e w' ⟨rfl, rfl⟩
      go_wp2_with fail
      refine (D2.out _).mono ?_; rintro e w' ⟨rfl, rfl⟩
      go_wp2_with fail
      go_ret
      exact ⟨by rw [E.out]; rfl, rfl⟩
    · have ey : (y == 0) = false := by rw [beq_eq_false_iff_ne]; exact hy
      have hxy : ¬ (x = 0 ∨ y = 0) := fun h => h.elim hx hy
      by_cases hs : 1 ≤ k + j ∧ k + j ≤ 5
      · have E := Lib.hid (E0.out hxy (SZ.out.2 hs))
        have s0 : ¬ (k : Int) + (j : Int) < 1 := by omega
        have s1 : ¬ 5 < (k : Int) + (j : Int) := by omega
        clear hx hy hxy E3 E4 E0 SZ W
        go_enter Try.func28, Try.ntmps28
        go_wp2_with fail
        refine (C1.out).mono ?_; rintro e w' ⟨rfl, rfl⟩
        go_wp2_with fail
        refine (C2.out).mono ?_; rintro e w' ⟨rfl, rfl⟩
        go_wp2_with fail
        refine (D1.out _).mono ?_; rintro e w' ⟨rfl, rfl⟩
        go_wp2_with fail
        refine (D2.out _).mono ?_; rintro e w' ⟨rfl, rfl⟩
        go_wp2_with fail
        refine (D1.out _).mono ?_; rintro e w' ⟨rfl, rfl⟩
        go_wp2_with fail
        refine (D2.out _).mono ?_; rintro e w' ⟨rfl, rfl⟩
        go_wp2_with fail
        go_ret
        exact ⟨by rw [E.out]; rfl, rfl⟩
      · have E := Lib.hid (E4.out hxy fun h => hs (SZ.out.1 h))
        have WW := Lib.hid (W.out hs)
        obtain ⟨s, hs'⟩ : ∃ s, s = IntKind.i64.wrap ((k : Int) + (j : Int)) := ⟨_, rfl⟩
        have WS := Lib.hid (show s < 1 ∨ ¬ s < 1 ∧ 5 < s by rw [hs']; have := WW.out; omega)
        have HS := hs'.symm
        clear hx hy hxy hs hs' E3 E4 E0 SZ W WW
        go_enter Try.func28, Try.ntmps28
        go_wp2_with fail
        refine (C1.out).mono ?_; rintro e w' ⟨rfl, rfl⟩
        go_wp2_with fail
        refine (C2.out).mono ?_; rintro e w' ⟨rfl, rfl⟩
        go_wp2_with fail
        refine (D1.out _).mono ?_; rintro e w' ⟨rfl, rfl⟩
        go_wp2_with fail
        refine (D2.out _).mono ?_; rintro e w' ⟨rfl, rfl⟩
        go_wp2_with fail
        refine (D1.out _).mono ?_; rintro e w' ⟨rfl, rfl⟩
        rcases WS.out with h1 | ⟨h1, h2⟩
        · go_wp2_with fail
          refine (D2.out _).mono ?_; rintro e w' ⟨rfl, rfl⟩
          go_wp2_with fail
          go_ret
          exact ⟨by rw [E.out]; rfl, rfl⟩
        · go_wp2_with fail
          refine (D2.out _).mono ?_; rintro e w' ⟨rfl, rfl⟩
          go_wp2_with fail
          go_ret
          exact ⟨by rw [E.out]; rfl, rfl⟩
theorem reChk_any (A B : Option Addr) (L M : List Int) (c d : Nat) (w : World) (ha : Lies w A L) (hb : Lies w B M) (bL : L.length ≤ 9223372036854775807) (bM : M.length ≤ 9223372036854775807) :
    Calls Try.prog 28 #[.slice A L.length c, .slice B M.length d] w fun e w' => e = .returned (errOf (recd L M)) ∧ w = w' := by
  by_cases h0 : L.length = 0 ∨ M.length = 0
  · exact reChk_none A B L M c d w h0
  · by_cases h : AllIn L 0 9972 ∧ AllIn M 0 9972
    · exact reChk_last A B L M L.length M.length (L.length - 1) (M.length - 1) c d w ha hb rfl rfl (by omega) (by omega) bL bM h
    · exact reChk_range A B L M L.length M.length c d w ha hb rfl rfl bL bM h0 h
theorem reChk_good {p q : List Fp.F} {L M : List Int} (s : Re p q L M) (A B : Option Addr) (c d : Nat) (w : World) (ha : Lies w A L) (hb : Lies w B M) :
    Calls Try.prog 28 #[.slice A p.length c, .slice B q.length d] w fun e w' => e = .returned .nilIface ∧ w = w' := by
  have h := reChk_any A B L M c d w ha hb (by rw [s.lenL]; have := s.hi; omega) (by rw [s.lenM]; have := s.hi; omega)
  rw [s.lenL, s.lenM, s.code] at h
  exact h

end Go.Proofs.Ytnjhdedhobgplaa

/- slices.Clone of a row of numbers, for all packages. -/
namespace Go.Proofs.Ytnjhdedhobgplaa
open Go.ChangeShapes Go.WideShapes Go.ChangeAt Go.RowKit
set_option linter.unusedVariables false

theorem sclone_any (A : Option Addr) (l : List Int) (c : Nat) (w : World) (hl : Lies w A l) (hn : l.length ≤ 1000000) :
    Calls Try.prog 31 #[.slice A l.length c] w fun e w' => SomeRow l w e w' := by
  have HL := Lib.hid hl
  have q22 : ∀ (w : World) (a : Option Addr) (n c n' c' : Nat), (binOp .eql 22 (.slice a n c) (.slice none n' c')).run Try.prog w = .ok (.bool a.isNone) w := fun w a n c n' c' => Lib.run_eql_slice_nil w _ _ a n c n' c' Try.underlying22
  rcases A with _ | ad
  · obtain rfl : l = [] := by
      rcases Nat.eq_zero_or_pos l.length with h0 | h0
      · exact List.eq_nil_of_length_eq_zero h0
      · obtain ⟨ad, h, _⟩ := hl 0 h0; cases h
    clear hl
    go_enter Try.func31, Try.ntmps31
    go_wp2_with fail
    go_ret
    exact ⟨_, rfl, Own.none _ _, Kp.rfl' _⟩
  · clear hl
    have hm : Own (w.alloc (.cells #[] 3)) w.heap.size (.slice (some ⟨w.heap.size, 0, none⟩) 0 0) [] := World.ownsRow_made w #[] 0 (Nat.le_refl _) (Nat.zero_le _) rfl
    have HM := Lib.hid hm
    have HK := Lib.hid ((Kp.rfl' w).new (.cells #[] 3))
    clear hm
    go_enter Try.func31, Try.ntmps31
    go_wp2_with (at_builtin; refine wpList_cat rfl _ _ rfl w.heap.size _ [] l (some ad) l.length c rfl rfl rfl HM.out (HL.out.keep HK.out) (by simp; omega) (by simp) ?_; intro v' w' h1 h2 _)
    have HO := Lib.hid h1
    have HK' := Lib.hid (own_below HM.out HK.out (by simp) h2)
    clear h1 h2
    go_wp2_with fail
    go_ret
    exact ⟨v', rfl, HO.out, HK'.out⟩

end Go.Proofs.Ytnjhdedhobgplaa

/- The body of a range over a function: a region that draws its order and ends in one store; and the iterator 'places' of package mat. -/
namespace Go.Proofs.Ytnjhdedhobgplaa
open Go.ChangeShapes Go.WideShapes Go.ChangeAt Go.RowKit Go.Shelf
set_option linter.unusedVariables false

/-- An operation that goes on, and nothing else. -/
def OnlyOn (Q : Exit → Act → World → Prop) : Exit → Act → World → Prop := fun e a w => e = .normal ∧ Q .normal a w

theorem oper_in {l n : Nat} {P : Program} {o : Oper} {a : Act} {w : World} {K K' : Act → World → Prop} {Q Q' : Exit → Act → World → Prop} (hd : ∀ c, o.op ≠ .defer c)
    (hK : ∀ a w, K a w → K' a w) (h : o.wp P a w K (OnlyOn Q)) : o.wpIn (Fence.wide.inRound l) n P a w K' Q' := by
  unfold Oper.wp at h
  unfold Oper.wpIn
  refine ⟨fun _ _ => trivial, ?_⟩
  rw [Oper.semAt_eq _ _ _ hd]
  generalize (execOp a.eval o).run P w = r at *
  cases r with
  | ok x w' =>
    cases x <;> simp only [Oper.upon, Oper.uponIn] at h ⊢
    case value => exact hK _ _ h
    case skip => exact hK _ _ h
    case defer => exact hK _ _ h
    case enter f args =>
      refine ⟨fun e => (by cases e), CallsIn.inRound l ((callsIn_wide (n := n - 1)).2 (h.mono fun e w2 he => ?_))⟩
      cases e with
      | returned v => exact hK _ _ he
      | panicked c => exact absurd he.1 (by simp)
      | outgrown => obtain ⟨_, _, h', _⟩ := he; cases h'
    case row s args =>
      refine ⟨fun e => (by cases e), fun c cs _ => ?_⟩
      obtain ⟨v, w2, h1, h2⟩ := h c cs
      exact ⟨v, w2, hK _ _ h1, stepsIn_wide.2 h2⟩
  | halt x w' =>
    cases x <;> simp only [Oper.upon, Oper.uponIn] at h ⊢
    exact absurd h.1 (by simp)

def noDefer (ops : List Oper) : Bool := ops.all fun o => match o.op with | .defer _ => false | _ => true
theorem noDefer_at {ops : List Oper} (h : noDefer ops = true) {i : Nat} {o : Oper} (hi : ops.toArray[i]? = some o) : ∀ c, o.op ≠ .defer c := fun c e => by
  have hm : o ∈ ops := by
    have : ops[i]? = some o := by simpa using hi
    exact List.mem_of_getElem? this
  have := List.all_eq_true.1 h o hm
  rw [e] at this
  cases this

theorem any_in {l n : Nat} {P : Program} {md : Region.Mode} {ops : List Oper} {Q : Exit → Act → World → Prop} (hd : noDefer ops = true) :
    ∀ (f : Nat) (listed : Array Bool) (a : Act) (w : World), wpAny P md ops.toArray (OnlyOn Q) f listed a w → wpAnyIn (Fence.wide.inRound l) n P md ops.toArray Q f listed a w
  | 0, _, _, _, h => ⟨h.1, h.2.2⟩
  | f + 1, listed, a, w, h => by
    refine ⟨fun h0 => (h.1 h0).2, fun i hi => ?_⟩
    have h2 := h.2 i hi
    unfold wpOp at h2
    unfold wpOpIn
    split
    · rename_i ho; simp only [ho] at h2; exact any_in hd f _ _ _ h2
    · rename_i o ho
      simp only [ho] at h2
      split
      · rename_i hw
        simp only [hw, if_true] at h2
        rcases h2 with h2 | ⟨_, _, _, h3, _⟩
        · exact oper_in (noDefer_at hd ho) (fun a w => any_in hd f _ a w) h2
        · cases h3
      · rename_i hw
        simp only [hw] at h2
        exact ⟨fun _ _ => trivial, any_in hd f _ _ _ h2⟩

/-- In a round: a region that draws its order and whose first k operations only read, the rest one behind the other. -/
theorem region_tail {l n : Nat} {P : Program} {id : Nat} {Q : Exit → Act → World → Prop} {a : Act} {w : World} {ops : List Oper} (k : Nat) (hm : P.follows .mixedOrders = true) (hd : noDefer ops = true)
    (hB : Region.lexTailB .any ops.toArray k = true) (h : wpStill P ops.toArray w.drew (fun a' => wpList P ops.toArray (OnlyOn Q) (ops.drop k) a' w.drew) (ops.take k) a) :
    (Code.region id ops.toArray true).wpIn (Fence.wide.inRound l) n P Q a w := by
  refine wpIn_region_any hm (any_in hd _ _ _ _ ?_)
  simp only [Region.lexTailB, Bool.and_eq_true, decide_eq_true_eq] at hB
  obtain ⟨⟨⟨⟨b1, b2⟩, b3⟩, b4⟩, b5⟩ := hB
  have hk : k < ops.length := by simpa using b2
  have ht : (ops.take k).length = k := by rw [List.length_take]; omega
  have he : (ops.drop k).length = ops.toArray.size - k := by simp
  have start : HeadInv .any ops.toArray k (Array.replicate ops.toArray.size false) :=
    { size := by simp
      closed := fun j oj _ hl => by rw [getD_replicate_false] at hl; cases hl
      tail := fun t _ hlt => getD_in (by simpa using hlt) (getD_replicate_false _ _) }
  have first := wpAnyL_lex (md := .any) (g := ops.toArray.size - k) b1 b3 b4 b2 (ops.take k) 0 _ a
    (fun j hj => by
      rw [ht] at hj
      simp [hj]) (by rw [ht, Nat.zero_add]) start (by rw [ht]; exact b5) h
  have all := wpAny_of_head (Q' := OnlyOn Q) (g := ops.toArray.size - k)
    (fun listed a' hL => by
      have s := wpAny_of_seq (md := .any) (Q' := OnlyOn Q) (ops.drop k) k listed a' w.drew (fun j => by simp [List.getElem?_drop]) (by rw [he]; exact hL.1) hL.2
      rw [he] at s
      exact s) _ _ _ first
  rw [ht, Nat.add_sub_cancel' (Nat.le_of_lt b2)] at all
  exact all

attribute [local go_sem] Oper.semAt_some

/-- Row and column of place k. -/
def rowOf (r c : Nat) (k : Nat) : Nat := k / c % r
def colOf (c : Nat) (k : Nat) : Nat := k % c
theorem rowOf_lt {r c : Nat} (k : Nat) (h : 0 < r) : rowOf r c k < r := Nat.mod_lt _ h
theorem colOf_lt {c : Nat} (k : Nat) (h : 0 < c) : colOf c k < c := Nat.mod_lt _ h
def placeOf (r c : Nat) (k : Nat) : Array Value := #[.int .i64 ((rowOf r c k : Nat) : Int), .int .i64 ((colOf c k : Nat) : Int)]
theorem placeOf_at {r c i j : Nat} (hi : i < r) (hj : j < c) : placeOf r c (i * c + j) = #[.int .i64 (i : Int), .int .i64 (j : Int)] := by
  have hc : 0 < c := by omega
  have e1 : rowOf r c (i * c + j) = i := by unfold rowOf; rw [Nat.mul_comm, Nat.mul_add_div hc, Nat.div_eq_of_lt hj, Nat.add_zero, Nat.mod_eq_of_lt hi]
  have e2 : colOf c (i * c + j) = j := by unfold colOf; rw [Nat.mul_comm, Nat.mul_add_mod, Nat.mod_eq_of_lt hj]
  unfold placeOf
  rw [e1, e2]


end Go.Proofs.Ytnjhdedhobgplaa

/- What the rounds over places keep: how many rows there are (for all packages). -/
namespace Go.Proofs.Ytnjhdedhobgplaa
open Go.ChangeShapes Go.WideShapes Go.ChangeAt Go.RowKit Go.Shelf
set_option linter.unusedVariables false
attribute [local go_sem] Oper.semAt_some

/-- What a round keeps: how many rows there are. -/
def KeepN (Bs n : Nat) (W W' : World) : Prop := W.cell? ⟨Bs, 0, none⟩ = some (.int .i64 (n : Int)) → W'.cell? ⟨Bs, 0, none⟩ = some (.int .i64 (n : Int))
theorem keepN_t {Bs n : Nat} {a b c : World} (h : KeepN Bs n a b) (h' : KeepN Bs n b c) : KeepN Bs n a c := fun x => h' (h x)
theorem keepN_b {Bs n : Nat} (W : World) (l : Nat) (o o' : Obj) (ho : W.heap[l]? = some o) (h1 : o.isCells = false) : KeepN Bs n W (W.putObj l o') :=
  fun x => cell_kept x (grownBy_putObj' W l o') (fun r e => by cases e; exact ⟨_, ho, h1⟩)
theorem keepN_set {Bs n : Nat} (W : World) (p : Addr) (v : Value) (h : p.block ≠ Bs) : KeepN Bs n W (W.setCell p v) := fun x =>
  (World.cell?_setCell_far W p ⟨Bs, 0, none⟩ v h).trans x

theorem boxed_keptN {W W' : World} {row : Option Nat} {B : Nat} {t : TypeId} {v : Value} (h : Boxed W B t v) (hg : W.grownBy W' row)
    (hr : ∀ r, row = some r → ∃ o : Obj, W.heap[r]? = some o ∧ o.isCells = false) : Boxed W' B t v :=
  h.kept hg fun e => by
    obtain ⟨o, ho, hc⟩ := hr B e.symm
    rw [show W.heap[B]? = _ from h] at ho; cases ho; cases hc
theorem boxed_kp {W W' : World} {B : Nat} {t : TypeId} {v : Value} (h : Boxed W B t v) (hk : Kp W W') : Boxed W' B t v :=
  (hk.block B h.lt).trans h
theorem keeps_kp {W W' : World} (h : Kp W W') : KeepsOthers W W' := ⟨h.size, fun k o hk _ => (h.block k (Array.getElem?_eq_some_iff.1 hk).1).trans hk⟩
theorem boxed_far {W : World} {B : Nat} {t : TypeId} {v : Value} (h : Boxed W B t v) {p : Addr} (hp : B ≠ p.block) (u : Value) : Boxed (W.setCell p u) B t v := by
  unfold Boxed
  rw [heap_setCell_other W p B u hp]; exact h
theorem boxed_same {W : World} {B : Nat} {t : TypeId} {v : Value} (h : Boxed W B t v) : W.setCell ⟨B, 0, none⟩ v = W := by
  have hl := h.lt
  have e : (W.setCell ⟨B, 0, none⟩ v).heap = W.heap := by
    refine Array.ext (by simp [World.setCell]) fun i h1 h2 => ?_
    by_cases e : i = B
    · subst e
      have h3 := Boxed.set v h
      have h4 : W.heap[i]? = some (.cells #[v] t (0, 0)) := h
      have h5 : (W.setCell ⟨i, 0, none⟩ v).heap[i]? = some (.cells #[v] t (0, 0)) := h3
      rw [Array.getElem?_eq_getElem h1] at h5
      rw [Array.getElem?_eq_getElem h2] at h4
      exact Option.some.inj (h5.trans h4.symm)
    · have h3 := heap_setCell_other W ⟨B, 0, none⟩ i v e
      rw [Array.getElem?_eq_getElem h1, Array.getElem?_eq_getElem h2] at h3
      exact Option.some.inj h3
  show { W with heap := (W.setCell ⟨B, 0, none⟩ v).heap } = W
  rw [e]
theorem boxed_drewN {W : World} {B : Nat} {t : TypeId} {v : Value} (h : Boxed W B t v) (n : Nat) : Boxed (W.drewN n) B t v := h

end Go.Proofs.Ytnjhdedhobgplaa

/- Contracts of package result, second part: slices.Reverse, what Full adds for one row of factors. -/
namespace Go.Proofs.Ytnjhdedhobgplaa
open Go.ChangeShapes Go.WideShapes Go.ChangeAt Go.RowKit Go.Shelf
set_option linter.unusedVariables false

/-- A row of which the first k and the last k numbers have changed places. -/
def rvk (n k : Nat) (f : Nat → Int) (t : Nat) : Int := if t < k ∨ n ≤ t + k then f (n - 1 - t) else f t
theorem rvk_none (n : Nat) (f : Nat → Int) : Mx.row n (rvk n 0 f) = Mx.row n f := Mx.row_ext fun t ht => by unfold rvk; rw [if_neg (by omega)]
theorem rvk_all {n k j : Nat} (f : Nat → Int) (hj : j + k + 1 = n) (h : ¬ k < j) : Mx.row n (rvk n k f) = Mx.row n fun t => f (n - 1 - t) := Mx.row_ext fun t ht => by
  unfold rvk
  by_cases e : t < k ∨ n ≤ t + k
  · rw [if_pos e]
  · rw [if_neg e, show n - 1 - t = t by omega]
theorem rvk_next {n k j : Nat} (f : Nat → Int) (hj : j + k + 1 = n) (h : k < j) : ((Mx.row n (rvk n k f)).set k (f j)).set j (f k) = Mx.row n (rvk n (k + 1) f) := by
  rw [Mx.row_set, Mx.row_set]
  refine Mx.row_ext fun t ht => ?_
  by_cases e1 : t = j
  · rw [if_pos e1, e1]; unfold rvk; rw [if_pos (by omega), show n - 1 - j = k by omega]
  · rw [if_neg e1]
    by_cases e2 : t = k
    · rw [if_pos e2, e2]; unfold rvk; rw [if_pos (by omega), show n - 1 - k = j by omega]
    · rw [if_neg e2]; unfold rvk
      by_cases e : t < k ∨ n ≤ t + k
      · rw [if_pos e, if_pos (by omega)]
      · rw [if_neg e, if_neg (by omega)]

set_option maxRecDepth 100000 in
set_option maxHeartbeats 3200000 in
theorem rev_any {w0 : World} (w : World) (g n c : Nat) (f : Nat → Int) (h : Own w w0.heap.size (.slice (some ⟨g, 0, none⟩) n c) (Mx.row n f)) (hk : Kp w0 w) (hB : w0.heap.size ≤ g) (h0 : 0 < n) (hn : n ≤ 1000) :
    Calls Try.prog 32 #[.slice (some ⟨g, 0, none⟩) n c] w fun e w' => e = .returned (.tuple #[]) ∧ Own w' w0.heap.size (.slice (some ⟨g, 0, none⟩) n c) (Mx.row n fun t => f (n - 1 - t)) ∧ Kp w0 w' := by
  have H := Lib.hid (show Own w w0.heap.size (.slice (some ⟨g, 0, none⟩) n c) (Mx.row n (rvk n 0 f)) by rw [rvk_none]; exact h)
  have HK := Lib.hid hk
  obtain ⟨n1, hn1⟩ : ∃ n1, n = n1 + 1 := ⟨n - 1, by omega⟩
  have e1 : (n : Int) - 1 = (n1 : Int) := by omega
  have HN := Lib.hid hn1
  clear h hk hn1
  go_enter Try.func32, Try.ntmps32
  go_wp2_with fail
  go_loopw [2, 3] (fun a b wr => ∃ k j : Nat, a = .int .i64 (k : Int) ∧ b = .int .i64 (j : Int) ∧ j + k + 1 = n ∧ Own wr w0.heap.size (.slice (some ⟨g, 0, none⟩) n c) (Mx.row n (rvk n k f)) ∧ Kp w0 wr) (fun a _ _ => n - (intOf a).toNat)
  case atStart => exact ⟨0, n1, rfl, by first | rfl | rw [e1], by have := HN.out; omega, H.out, HK.out⟩
  case round =>
    obtain ⟨k, j, rfl, rfl, hkj, ho, hkp⟩ := hrel
    by_cases hlt : k < j
    · have hkn : k < n := by omega
      have hjn : j < n := by omega
      have y1 := own_cell ho k (by rw [Mx.len_row]; exact hkn)
      have y2 := own_cell ho j (by rw [Mx.len_row]; exact hjn)
      rw [Mx.row_at n _ k hkn, show rvk n k f k = f k from if_neg (by omega)] at y1
      rw [Mx.row_at n _ j hjn, show rvk n k f j = f j from if_neg (by omega)] at y2
      have y3 := own_free ho k
      have y4 := own_free ho j
      have y5 := own_free (own_put ho k (f j)) j
      have hne : (⟨g, k, none⟩ : Addr) ≠ ⟨g, j, none⟩ := fun e' => by cases e'; omega
      have y6 : (wr.setCell ⟨g, k, none⟩ (.int .i64 (f j))).cell? ⟨g, j, none⟩ = some (.int .i64 (f j)) := by
        rw [World.cell?_setCell_other (w := wr) (v := .int .i64 (f j)) (h := hne)]; exact y2
      have HO := Lib.hid (show Own (((wr.setCell ⟨g, k, none⟩ (.int .i64 (f j))).setCell ⟨g, j, none⟩ (.int .i64 (f k)))) w0.heap.size (.slice (some ⟨g, 0, none⟩) n c) (Mx.row n (rvk n (k + 1) f)) from by
        rw [← rvk_next f hkj hlt]; exact own_put (own_put ho k (f j)) j (f k))
      have HK2 := Lib.hid ((hkp.put (p := ⟨g, k, none⟩) hB (.int .i64 (f j))).put (p := ⟨g, j, none⟩) hB (.int .i64 (f k)))
      obtain ⟨j1, hj1⟩ : ∃ j1, j = j1 + 1 := ⟨j - 1, by omega⟩
      have e2 : (j : Int) - 1 = (j1 : Int) := by omega
      have HJ := Lib.hid (show j1 + (k + 1) + 1 = n by omega)
      generalize f k = x at *
      generalize f j = y at *
      clear hkj ho hkp hne hj1
      go_wp2_with fail
      go_region_law (fail)
      all_goals
        go_wp2_with fail
        go_roundw
        case rel => exact ⟨k + 1, j1, by go_num, by first | rfl | rw [e2], HJ.out, HO.out, HK2.out.drewN 1⟩
        case measure => simp [intOf]; omega
    · have HO := Lib.hid (show Own wr w0.heap.size (.slice (some ⟨g, 0, none⟩) n c) (Mx.row n fun t => f (n - 1 - t)) by rw [← rvk_all f hkj hlt]; exact ho)
      have HK2 := Lib.hid hkp
      clear hkj ho hkp
      go_wp2_with fail
      go_end0
      exact ⟨rfl, HO.out, HK2.out⟩

end Go.Proofs.Ytnjhdedhobgplaa

/- A matrix of the call's own that lies in a variable: what leaves it as it is. For all packages. -/
namespace Go.Proofs.Ytnjhdedhobgplaa
open Go.ChangeShapes Go.WideShapes Go.ChangeAt Go.RowKit Go.Shelf
set_option linter.unusedVariables false

/-- What is the call's own abides the turn of what is no cells. -/
theorem ownsRow_keptN {W W' : World} {row : Option Nat} {B n : Nat} {e : TypeId} {v : Value} {xs : List Value} (h : W.ownsRow B e 1 v n xs) (hg : W.grownBy W' row)
    (hr : ∀ r, row = some r → ∃ o : Obj, W.heap[r]? = some o ∧ o.isCells = false) : W'.ownsRow B e 1 v n xs := by
  refine h.kept hg ?_
  rcases h.2 with ⟨rfl, _⟩ | ⟨g, cap, cur, rfl, _, hgb, _⟩
  · exact .inl rfl
  · refine .inr fun e' => ?_
    obtain ⟨o, ho, hc⟩ := hr g (by simpa [Value.ownBlock] using e'.symm)
    rw [hgb] at ho; cases ho; cases hc
theorem ownM_keptN {W W' : World} {row : Option Nat} {B : Nat} {v : Value} {G C : Nat → Nat} {m : List (List Int)} (h : OwnM W B v G C m) (hg : W.grownBy W' row)
    (hr : ∀ r, row = some r → ∃ o : Obj, W.heap[r]? = some o ∧ o.isCells = false) : OwnM W' B v G C m :=
  ⟨ownsRow_keptN h.top hg hr, fun i hi => ownsRow_keptN (h.row i hi) hg hr, h.apart⟩
/-- A store into a variable's box leaves the rows and their heads. -/
theorem ownM_box {W : World} {B Bx : Nat} {v u u' : Value} {G C : Nat → Nat} {m : List (List Int)} (h : OwnM W B v G C m) (hb : Boxed W Bx 37 u) : OwnM (W.setCell ⟨Bx, 0, none⟩ u') B v G C m := by
  refine ⟨World.ownsRow.kept h.top (grownBy_setCell' W Bx u') (.inr (hb.not_row (by decide) h.top).symm), fun i hi => own_store (h.row i hi) (a := ⟨Bx, 0, none⟩) (fun e => ?_) u', h.apart⟩
  obtain ⟨cur, hh, _⟩ := own_row (h.row i hi)
  have h2 : W.heap[Bx]? = some (.cells #[u] 37 (0, 0)) := hb
  rw [show G i = Bx from e, h2] at hh
  cases hh


end Go.Proofs.Ytnjhdedhobgplaa

/- Contracts of package result, third part: what Full adds for one row of factors. -/
namespace Go.Proofs.Ytnjhdedhobgplaa
open Go.ChangeShapes Go.WideShapes Go.ChangeAt Go.RowKit Go.Shelf
set_option linter.unusedVariables false

theorem row_mid (N k n : Nat) (u : Nat → Int) (h : k + n ≤ N) : List.replicate k 0 ++ Mx.row n u ++ List.replicate (N - (k + n)) 0 = Mx.row N fun x => if k ≤ x ∧ x < k + n then u (x - k) else 0 := by
  refine List.ext_getElem (by simp [Mx.row]; omega) fun i h1 h2 => ?_
  have hi : i < N := by simpa [Mx.row] using h2
  simp only [Mx.row, List.getElem_map, List.getElem_range, List.getElem_append, List.length_append, List.length_replicate, List.length_map, List.length_range, List.getElem_replicate]
  by_cases e1 : i < k
  · simp [e1, show i < k + n by omega, show ¬ k ≤ i by omega]
  · by_cases e2 : i < k + n
    · simp [e1, e2, show k ≤ i by omega]
    · simp [e2]
/-- One row of the matrix. -/
theorem shr_row {N k n : Nat} (p : Nat → Fp.F) (h : k + n ≤ N) (h0 : 0 < n) : List.replicate k 0 ++ (Mx.row n fun t => ((p (n - 1 - t)).val : Int)) ++ List.replicate (N - (k + n)) 0 = Mx.row N fun x => ((Mx.shr (n - 1) k n p x).val : Int) := by
  rw [row_mid N k n _ h]
  refine Mx.row_ext fun x hx => ?_
  unfold Mx.shr
  by_cases e : k ≤ x ∧ x < k + n
  · rw [if_pos e, if_pos e]
  · rw [if_neg e, if_neg e]; rfl
theorem vals_row (p : List Fp.F) : Pol.vals p = Mx.row p.length fun t => ((Pol.co p t).val : Int) := by
  refine List.ext_getElem (by simp [Pol.vals, Mx.row]) fun i h1 h2 => ?_
  have hi : i < p.length := by simpa [Pol.vals] using h1
  simp [Pol.vals, Mx.row, Pol.co, hi]

set_option maxRecDepth 100000 in
theorem copy_shift (w1 : World) (g N k n m c : Nat) (A : Option Addr) (l : List Int) (ty : TypeId) (hr : Row w1 g (List.replicate N 0)) (hl : Lies w1 A l) (hn : n = l.length) (hfit : k + n ≤ N) (hm : m = N - k) (h0 : 0 < n) :
    ∃ w2, (Builtin.copy_ #[22, 22] ty #[.slice (some ⟨g, k, none⟩) m m, .slice A n c]).run Try.prog w1 = .ok (goInt n) w2 ∧
      Row w2 g (List.replicate k 0 ++ l ++ List.replicate (N - (k + n)) 0) ∧ ∀ B w0, Below B w0 w1 → B ≤ g → Below B w0 w2 := by
  obtain ⟨i0, hi, hz0, hz1, hz2⟩ := info_parts int_info
  have hsz : (Try.prog.info? 3).map (·.size) = some 1 := by rw [hi]; simp [hz1]
  have hmm : Nat.min n m = n := Nat.min_eq_left (by omega)
  obtain ⟨ad, rfl, _, _⟩ := hl 0 (by omega)
  have hlen : (ints l).length = n := by rw [ints, List.length_map, hn]
  have hrun := run_copy_row (P := Try.prog) w1 22 22 ty 3 g k m m ad n c _ 3 (ints l) Try.underlying22 hsz hr (by rw [hlen]; exact hmm.symm)
    (fun j v hj => by
      have hj' : j < l.length := by
        rcases Nat.lt_or_ge j l.length with hlt | hge
        · exact hlt
        · rw [List.getElem?_eq_none (by rw [ints, List.length_map]; exact hge)] at hj; cases hj
      obtain ⟨ad', e, _, hc⟩ := hl j hj'
      obtain rfl := Option.some.inj e
      rw [hc, ← hj]
      rw [ints, List.getElem?_map, List.getD_eq_getElem?_getD, List.getElem?_eq_getElem hj']; rfl) (by rw [hlen]; simp; omega) (fun v hv => by simp only [ints, List.mem_map] at hv; obtain ⟨y, _, rfl⟩ := hv; rfl)
  rw [hlen] at hrun
  refine ⟨_, hrun, ?_, fun B w0 hb hB => below_setRow hb hB _⟩
  unfold Row
  rw [setRow_heap w1 g _ _ 3 (0, 0) hr]
  congr 3
  simp [ints, Nat.min_eq_left (show k ≤ N by omega)]

section
variable {w : World} {ops : Array Oper} {rest : List Oper} {o : Oper} {a : Act} {Q : Exit → Act → World → Prop}
/-- An append of a row: nothing but the block of heads may have turned. -/
theorem wpList_pushG (hgd : o.guard = Option.none) (s x : Operand) (ho : o.op = .call { callee := .builtin .append, args := #[s, x], argTypes := #[37, 37] })
    (B : Nat) (v : Value) (G C : Nat → Nat) (m : List (List Int)) (l : List Int) (g n c gb cb : Nat) (hn : l.length = n) (hs : a.eval s = v) (hx : a.eval x = .slice (some ⟨gb, 0, none⟩) 1 cb) (hown : OwnM w B v G C m)
    (hcell : w.cell? ⟨gb, 0, none⟩ = some (.slice (some ⟨g, 0, none⟩) n c)) (hrow : Own w B (.slice (some ⟨g, 0, none⟩) n c) l) (hap : ∀ i, i < m.length → G i ≠ g) (hlen : m.length + 1 ≤ 1000000) (hB : B ≤ w.heap.size)
    (h : ∀ v' w' G' C', OwnM w' B v' G' C' (m ++ [l]) → w.grownBy w' v.ownBlock → wpList Try.prog ops Q rest (a.put o.dst v') w') : wpList Try.prog ops Q (o :: rest) a w :=
  wpList_plain hgd fun _ hK => wp_pushM s x ho B v G C m l g n c gb cb hn hs hx hown hcell hrow hap hlen hB fun v' w' G' C' h1 h2 => hK _ _ (h v' w' G' C' h1 h2)
end

/-- What the rounds of Full keep: how many rows there are and the rows so far in variables of their own, the row that is laid ahead. -/
structure AddAt (w0 w : World) (bs bf g n gc N r : Nat) (f : Nat → Int) (F : Nat → Nat → Fp.F) (v : Value) (G C : Nat → Nat) : Prop where
  size : Boxed w bs 3 (.int .i64 (N : Int))
  full : Boxed w bf 37 v
  own : OwnM w w0.heap.size v G C (Mx.matl r N F)
  lead : Own w w0.heap.size (.slice (some ⟨g, 0, none⟩) n gc) (Mx.row n f)
  kp : Kp w0 w
theorem AddAt.fin {w0 w w2 w6 : World} {bs bf g n gc N r vg vc : Nat} {f : Nat → Int} {F : Nat → Nat → Fp.F} {v : Value} {G C G' C' : Nat → Nat} {tmp : Obj} (h : AddAt w0 w bs bf g n gc N r f F v G C) (hbf : w0.heap.size ≤ bf) (hne : bs ≠ bf) (hgf : g ≠ bf) (k : Kp w w2)
    (hg : (w2.alloc tmp).grownBy w6 v.ownBlock) (h6 : OwnM w6 w0.heap.size (.slice (some ⟨vg, 0, none⟩) (r + 1) vc) G' C' (Mx.matl r N F ++ [Mx.row N fun x => ((F r x).val : Int)])) :
    (w6.cell? ⟨bf, 0, none⟩ = some v ∧ w6.frozen? ⟨bf, 0, none⟩ = false) ∧
      AddAt w0 (w6.setCell ⟨bf, 0, none⟩ (.slice (some ⟨vg, 0, none⟩) (r + 1) vc)) bs bf g n gc N (r + 1) f F (.slice (some ⟨vg, 0, none⟩) (r + 1) vc) G' C' := by
  have hv4 := boxed_kp h.full k
  have hrow4 := (h.own.kp k).top
  have hs := (h.kp.trans k).size
  obtain ⟨b6, b7, _, ko, be⟩ := hv4.appended (by decide) hrow4 hs hbf h6.top hg
  have s4 := (boxed_kp h.size k).alloc tmp
  have s6 := s4.kept hg (s4.not_row (by decide) (hrow4.alloc tmp))
  have l4 := (ownsRow_kp h.lead k).alloc tmp
  have l6 : Own w6 w0.heap.size (.slice (some ⟨g, 0, none⟩) n gc) (Mx.row n f) := World.ownsRow.kept l4 hg (.inr (top_ne (hrow4.alloc tmp) l4))
  refine ⟨⟨b6.cell, b6.frozen⟩, (Below.heap_setCell w6 ⟨bf, 0, none⟩ _ bs hne).trans s6, b7, ?_, own_store l6 (a := ⟨bf, 0, none⟩) hgf _, Below.trans (h.kp.trans k) be⟩
  rw [show Mx.matl (r + 1) N F = Mx.matl r N F ++ [Mx.row N fun x => ((F r x).val : Int)] by rw [Mx.matl, Mx.tab_snoc]; rfl]
  exact ownM_box h6 b6

theorem AddAt.rows {w0 w : World} {bs bf g n gc N r : Nat} {f : Nat → Int} {F : Nat → Nat → Fp.F} {v : Value} {G C : Nat → Nat} (h : AddAt w0 w bs bf g n gc N r f F v G C) : ∃ A c, v = .slice A r c := by
  obtain ⟨A, c, e, _, _⟩ := h.own.lies
  rw [Mx.len_matl] at e
  exact ⟨A, c, e⟩

set_option maxRecDepth 100000 in
set_option maxHeartbeats 6400000 in
theorem add_any (w0 w : World) (A : Option Addr) (p : List Fp.F) (n c N r t bs bf : Nat) (F : Nat → Nat → Fp.F) (v : Value) (G C : Nat → Nat) (hn : n = p.length) (ha : Lies w A (Pol.vals p)) (h0 : 0 < n) (h1 : n ≤ 1000) (hfit : t + n ≤ N + 1) (hN : N ≤ 1000) (hr : r + t ≤ 1000)
    (bS : Boxed w bs 3 (.int .i64 (N : Int))) (bF : Boxed w bf 37 v) (ho : OwnM w w0.heap.size v G C (Mx.matl r N F)) (k0 : Kp w0 w) (hf : w0.heap.size ≤ bf) (hne : bs ≠ bf)
    (hF : ∀ i x, i < t → x < N → F (r + i) x = Mx.shr (n - 1) i n (Pol.co p) x) :
    Calls Try.prog 30 #[.slice A n c, .int .i64 (t : Int), .pointer (some ⟨bs, 0, none⟩), .pointer (some ⟨bf, 0, none⟩)] w fun e w' => e = .returned (.tuple #[]) ∧
      ∃ v' G' C', Boxed w' bs 3 (.int .i64 (N : Int)) ∧ Boxed w' bf 37 v' ∧ OwnM w' w0.heap.size v' G' C' (Mx.matl (r + t) N F) ∧ Kp w0 w' := by
  have CL := Lib.hid (show Calls Try.prog 31 #[.slice A n c] w fun e w' => ∃ g gc, e = .returned (.slice (some ⟨g, 0, none⟩) n gc) ∧ w.heap.size ≤ g ∧ Own w' w.heap.size (.slice (some ⟨g, 0, none⟩) n gc) (Mx.row n fun t => ((Pol.co p t).val : Int)) ∧ Kp w w' from by
    have h := sclone_any A (Pol.vals p) c w ha (by rw [Pol.len_vals]; omega)
    rw [Pol.len_vals, ← hn] at h
    refine h.mono ?_
    rintro e w' ⟨v, rfl, hv, hk⟩
    obtain ⟨g, gc, rfl, hg, _⟩ := own_some hv (by rw [Pol.len_vals]; omega)
    rw [vals_row, ← hn, Mx.len_row] at hv
    rw [Pol.len_vals, ← hn]
    exact ⟨g, gc, rfl, hg, hv, hk⟩)
  have SZ := Lib.hid bS
  have FU := Lib.hid bF
  have OW := Lib.hid ho
  have K0 := Lib.hid k0
  have HS := Lib.hid (show ∀ i, i < t → (List.replicate i 0 ++ (Mx.row n fun x => ((Pol.co p (n - 1 - x)).val : Int)) ++ List.replicate (N - (i + n)) 0) = Mx.row N fun x => ((F (r + i) x).val : Int) from fun i hi => by
    rw [shr_row (Pol.co p) (by omega) h0]
    exact Mx.row_ext fun x hx => by rw [hF i x hi hx])
  have HF := Lib.hid hf
  have HNE := Lib.hid hne
  obtain ⟨i0, hi, hz0, hz1, hz2⟩ := info_parts int_info
  clear ha bS bF ho k0 hF hn hf hne
  go_enter Try.func30, Try.ntmps30
  go_wp2_with fail
  refine (CL.out).mono ?_; rintro e w1 ⟨g, gc, rfl, hg, o1, k1⟩
  have RV := Lib.hid (rev_any (w0 := w) w1 g n gc (fun t => ((Pol.co p t).val : Int)) o1 k1 hg h0 h1)
  clear o1 k1
  go_wp2_with fail
  refine (RV.out).mono ?_; rintro e w2 ⟨rfl, o2, k2⟩
  have hgf : g ≠ bf := by have := FU.out.lt; omega
  have AT := Lib.hid (show AddAt w0 w2 bs bf g n gc N r (fun x => ((Pol.co p (n - 1 - x)).val : Int)) F v G C from ⟨boxed_kp SZ.out k2, boxed_kp FU.out k2, OW.out.kp k2, o2.from K0.out.size, K0.out.trans k2⟩)
  clear o2 k2 RV CL SZ FU OW K0 hg
  go_wp2_with fail
  go_loopw [14] (fun i wr => ∃ (k : Nat) (v' : Value) (G' C' : Nat → Nat), k ≤ t ∧ i = .int .i64 (k : Int) ∧ AddAt w0 wr bs bf g n gc N (r + k) (fun x => ((Pol.co p (n - 1 - x)).val : Int)) F v' G' C') (fun i _ => t - (intOf i).toNat)
  case atStart => exact ⟨0, v, G, C, Nat.zero_le _, rfl, AT.out⟩
  case round =>
    obtain ⟨k, v', G', C', hk, rfl, at0⟩ := hrel
    clear AT
    by_cases hlt : k < t
    · obtain ⟨Av, cv, rfl⟩ := at0.rows
      have x1 := at0.size.cell
      have HA := Lib.hid at0
      have hkN : k + n ≤ N := by omega
      have hkN2 : k < N := by omega
      have hNN : 0 < N := by omega
      clear at0
      go_wp2_with (at_make; refine wpList_make_full _ rfl _ _ 22 rfl w0.heap.size 3 i0 (.int .i64 0) 1 Try.underlying22 hi hz0 hz1 _ _ _ _ N rfl rfl rfl rfl (by rw [hz2]; omega) (by unfold maxLen; omega) HA.out.kp.size ?_; intro w3 hown hgrow; have hrow : Row w3 wr.heap.size (List.replicate N 0) := row_made hown; have k3 : Kp wr w3 := (Kp.rfl' wr).grown hgrow (by simp) (fun k hk => by cases hk))
      obtain ⟨z, hz⟩ : ∃ x, x = wr.heap.size := ⟨_, rfl⟩
      rw [← hz] at hrow ⊢
      have LD : Lies w3 (some ⟨g, 0, none⟩) (Mx.row n fun x => ((Pol.co p (n - 1 - x)).val : Int)) := by
        obtain ⟨A', c', e', hl'⟩ := HA.out.lead.lies
        have e1 : some (⟨g, 0, none⟩ : Addr) = A' := by injection e'
        rw [e1]
        exact hl'.keep k3
      obtain ⟨w4, hrun, hrow4, hk4⟩ := copy_shift w3 z N k n (N - k) gc _ _ 3 hrow LD (Mx.len_row _ _).symm hkN rfl h0
      rw [hrun]
      rw [HS.out k hlt] at hrow4
      have hzw : wr.heap.size ≤ z := Nat.le_of_eq hz.symm
      have HZ := Lib.hid hz
      have k4 : Kp wr w4 := hk4 _ _ k3 hzw
      have hs4 := (HA.out.kp.trans k4).size
      have f1 := (boxed_kp HA.out.full k4).cell
      have OM := Lib.hid (HA.out.own.kp k4)
      have RW := Lib.hid (show Own w4 w0.heap.size (.slice (some ⟨z, 0, none⟩) N N) (Mx.row N fun x => ((F (r + k) x).val : Int)) from hrow4.own (Nat.le_trans HA.out.kp.size hzw) (Mx.len_row _ _) (by omega))
      have HAP := Lib.hid (show ∀ i, i < (Mx.matl (r + k) N F).length → G' i ≠ z from fun i hi => by have := (HA.out.own.lt hi).2; omega)
      have K4 := Lib.hid k4
      have OS := Lib.hid (fun (v6 : Value) (w6 : World) (G6 C6 : Nat → Nat) (o6 : OwnM w6 w0.heap.size v6 G6 C6 (Mx.matl (r + k) N F ++ [Mx.row N fun x => ((F (r + k) x).val : Int)])) => (show ∃ vg vc, v6 = .slice (some ⟨vg, 0, none⟩) (r + k + 1) vc from by
        have ht := o6.top
        rw [List.length_append, List.length_singleton, Mx.len_matl] at ht
        exact ownsRow_succ ht))
      clear hrun hrow hrow4 hk4 LD k3 hown hgrow hz k4
      go_wp2_with (at_builtin; refine wpList_pushG rfl _ _ rfl w0.heap.size _ G' C' (Mx.matl (r + k) N F) (Mx.row N fun x => ((F (r + k) x).val : Int)) z N N _ 1 (Mx.len_row _ _) rfl rfl (OM.out.new _) (cell_made _ _ _ _ 0 rfl) (RW.out.new _) HAP.out (by rw [Mx.len_matl]; omega) (Nat.le_trans hs4 ((Kp.rfl' _).new _).size) ?_; intro v6 w6 G6 C6 o6 g6; obtain ⟨vg, vc, rfl⟩ := OS.out _ _ _ _ o6; obtain ⟨⟨b1, b2⟩, an⟩ := HA.out.fin HF.out HNE.out hgf K4.out g6 o6)
      have AN := Lib.hid an
      clear an g6 o6
      go_wp2_with fail
      go_roundw
      case rel => exact ⟨k + 1, _, _, _, by omega, by go_num, AN.out⟩
      case measure => simp [intOf]; omega
    · obtain rfl : k = t := by omega
      have HA := Lib.hid at0
      clear at0
      go_wp2_with fail
      go_end0
      exact ⟨rfl, _, _, _, HA.out.size, HA.out.full, HA.out.own, HA.out.kp⟩

end Go.Proofs.Ytnjhdedhobgplaa

/- Heads of n rows of n numbers, written one by one, of rows that came of elsewhere; a matrix made. For all packages. -/
namespace Go.Proofs.Ytnjhdedhobgplaa
open Go.ChangeShapes Go.WideShapes Go.ChangeAt Go.RowKit
set_option linter.unusedVariables false

theorem Lies.off {w : World} {b : Nat} {l : List Int} (h : Lies w (some ⟨b, 0, none⟩) l) {a : Addr} (ha : b ≠ a.block) (u : Value) : Lies (w.setCell a u) (some ⟨b, 0, none⟩) l := fun k hk => by
  obtain ⟨ad, e, hl, hc⟩ := h k hk
  obtain rfl := Option.some.inj e
  refine ⟨_, rfl, by simpa [World.setCell] using hl, ?_⟩
  rw [add_at] at hc ⊢
  exact (World.cell?_of_block (w := w) (heap_setCell_other w a b u ha)).trans hc
/-- The heads of n rows of n numbers, the first k of them made. -/
structure HdP (w : World) (g : Nat) (G C : Nat → Nat) (n k : Nat) (f : Nat → Nat → Int) : Prop where
  head : w.heap[g]? = some (.cells ((List.range n).map fun i => if i < k then Value.slice (some ⟨G i, 0, none⟩) n (C i) else .slice none 0 0).toArray 22 (0, 0))
  row : ∀ i, i < k → Lies w (some ⟨G i, 0, none⟩) (Mx.row n (f i))
  cap : ∀ i, i < k → n ≤ C i
  apart : ∀ i, i < k → G i ≠ g
section
variable {w w' : World} {g : Nat} {G C : Nat → Nat} {n k : Nat} {f : Nat → Nat → Int}
theorem HdP.lt (h : HdP w g G C n k f) : g < w.heap.size := by
  rcases Nat.lt_or_ge g w.heap.size with h' | h'
  · exact h'
  · have := h.head; rw [Array.getElem?_eq_none h'] at this; cases this
theorem HdP.keep (h : HdP w g G C n k f) (hk : Kp w w') : HdP w' g G C n k f := ⟨by rw [hk.block g h.lt]; exact h.head, fun i hi => (h.row i hi).keep hk, h.cap, h.apart⟩
theorem HdP.cell (h : HdP w g G C n k f) {i : Nat} (hi : k ≤ i) (hr : i < n) : w.cell? ⟨g, i, none⟩ = some (.slice none 0 0) := by
  rw [cell_of_row _ _ i _ _ (0, 0) h.head]; simp [hr]; omega
theorem HdP.free (h : HdP w g G C n k f) (i : Nat) : w.frozen? ⟨g, i, none⟩ = false := frozen_of_row w g i _ _ h.head
theorem HdP.start {base : Nat} (f : Nat → Nat → Int) (h : w.ownsRow base 22 1 (.slice (some ⟨g, 0, none⟩) n n) n (madeCells #[.slice none 0 0] (n * 1)).toList) : HdP w g (fun _ => 0) (fun _ => 0) n 0 f :=
  ⟨by have := (PartF.start (c := 0) f h).head; simpa using this, fun i hi => absurd hi (by omega), fun i hi => absurd hi (by omega), fun i hi => absurd hi (by omega)⟩
theorem HdP.step (h : HdP w g G C n k f) (hk : k < n) {z cz : Nat} (hz : Lies w (some ⟨z, 0, none⟩) (Mx.row n (f k))) (hc : n ≤ cz) (hne : z ≠ g) :
    HdP (w.setCell ⟨g, k, none⟩ (.slice (some ⟨z, 0, none⟩) n cz)) g (fun i => if i = k then z else G i) (fun i => if i = k then cz else C i) n (k + 1) f := by
  refine ⟨?_, fun i hi => ?_, fun i hi => ?_, fun i hi => ?_⟩
  · rw [heap_setCell_same w g k _ _ _ h.head]
    congr 2
    refine Array.toList_inj.1 (List.ext_getElem (by simp) fun i h2 h3 => ?_)
    simp only [Array.toList_setIfInBounds, List.getElem_set, List.getElem_map, List.getElem_range]
    rcases Nat.lt_trichotomy i k with e | e | e
    · simp [show ¬ k = i by omega, show i < k from e, show i < k + 1 by omega, show ¬ i = k by omega]
    · subst e; simp
    · simp [show ¬ k = i by omega, show ¬ i < k by omega, show ¬ i < k + 1 by omega]
  · by_cases e : i = k
    · subst e
      rw [if_pos rfl]; exact hz.off hne _
    · rw [if_neg e]; exact (h.row i (by omega)).off (h.apart i (by omega)) _
  · by_cases e : i = k
    · rw [if_pos e]; exact hc
    · rw [if_neg e]; exact h.cap i (by omega)
  · by_cases e : i = k
    · rw [if_pos e]; exact hne
    · rw [if_neg e]; exact h.apart i (by omega)
theorem HdP.lies {f : Nat → Nat → Fp.F} (h : HdP w g G C n n fun i j => ((f i j).val : Int)) : LiesM w (some ⟨g, 0, none⟩) (Mx.matl n n f) := fun i hi => by
  rw [Mx.len_matl] at hi
  rw [matl_row f hi, Mx.len_row]
  refine ⟨_, some ⟨G i, 0, none⟩, C i, rfl, h.lt, ?_, h.cap i hi, h.row i hi⟩
  rw [add_at, cell_of_row _ _ i _ _ (0, 0) h.head]; simp [hi]
end

/-- A matrix made. -/
def MadeM (n : Nat) (f : Nat → Nat → Fp.F) (w : World) (e : Ending) (w' : World) : Prop := ∃ A d, e = .returned (.tuple #[.slice A n d, .nilIface]) ∧ n ≤ d ∧ LiesM w' A (Mx.matl n n f) ∧ Kp w w'

end Go.Proofs.Ytnjhdedhobgplaa

/- Plain facts for package det: how many numbers are not at their places; what a value is as a sign. No program is named here. -/
namespace Go.Proofs.Ytnjhdedhobgplaa.Mx
open Fp
set_option linter.unusedVariables false

/-- How many of the first n are not at their places. -/
def nf : Nat → (Nat → Int) → Nat
  | 0, _ => 0
  | n + 1, s => nf n s + if s n = (n : Int) then 0 else 1
theorem nf_le : ∀ (n : Nat) {s t : Nat → Int}, (∀ i, i < n → s i = (i : Int) → t i = (i : Int)) → nf n t ≤ nf n s
  | 0, _, _, _ => Nat.le_refl _
  | n + 1, s, t, h => by
    have h1 := nf_le n (s := s) (t := t) fun i hi => h i (by omega)
    show nf n t + (if t n = (n : Int) then 0 else 1) ≤ nf n s + if s n = (n : Int) then 0 else 1
    by_cases e : s n = (n : Int)
    · rw [if_pos e, if_pos (h n (by omega) e)]; omega
    · rw [if_neg e]; split <;> omega
theorem nf_lt : ∀ (n : Nat) {s t : Nat → Int} {m : Nat}, (∀ i, i < n → s i = (i : Int) → t i = (i : Int)) → m < n → s m ≠ (m : Int) → t m = (m : Int) → nf n t < nf n s
  | 0, _, _, m, _, hm, _, _ => absurd hm (by omega)
  | n + 1, s, t, m, h, hm, h1, h2 => by
    show nf n t + (if t n = (n : Int) then 0 else 1) < nf n s + if s n = (n : Int) then 0 else 1
    by_cases e : m = n
    · subst e
      have := nf_le m (s := s) (t := t) fun i hi => h i (by omega)
      rw [if_neg h1, if_pos h2]; omega
    · have := nf_lt n (s := s) (t := t) (m := m) (fun i hi => h i (by omega)) (by omega) h1 h2
      by_cases e : s n = (n : Int)
      · rw [if_pos e, if_pos (h n (by omega) e)]; omega
      · rw [if_neg e]; split <;> omega

theorem ofInt_neg (x : Int) : ofInt (-x) = -(ofInt x) := by
  have := ofInt_add x (-x)
  rw [show x + -x = 0 by omega, show ofInt 0 = 0 from rfl] at this
  grind
/-- x is 1, -1 or 0, and S in the field. -/
def SgnIs (S : F) (x : Int) : Prop := (x = 1 ∨ x = -1 ∨ x = 0) ∧ ofInt x = S
theorem SgnIs.one {S : F} {x y : Int} (h : SgnIs S x) (k : SgnIs S y) : x = y := by
  have e := h.2.trans k.2.symm
  have n1 : ofInt 1 ≠ ofInt (-1) := by decide
  have n2 : ofInt 1 ≠ ofInt 0 := by decide
  have n3 : ofInt (-1) ≠ ofInt 0 := by decide
  rcases h.1 with a | a | a <;> rcases k.1 with b | b | b <;> first | exact a.trans b.symm | (rw [a, b] at e; first | exact absurd e n1 | exact absurd e.symm n1 | exact absurd e n2 | exact absurd e.symm n2 | exact absurd e n3 | exact absurd e.symm n3)
theorem SgnIs.neg {S : F} {x : Int} (h : SgnIs S x) : SgnIs (-S) (-x) := by
  refine ⟨?_, by rw [ofInt_neg, h.2]⟩
  rcases h.1 with a | a | a <;> rw [a] <;> decide
theorem SgnIs.bound {S : F} {x : Int} (h : SgnIs S x) : -1 ≤ x ∧ x ≤ 1 := by rcases h.1 with a | a | a <;> omega
theorem tmod_F (x : Int) : ofInt (x.tmod 9973) = ofInt x := by
  have h := Int.mul_tdiv_add_tmod x 9973
  have h2 : ofInt x = ofInt (9973 * x.tdiv 9973 + x.tmod 9973) := by rw [h]
  rw [ofInt_add, ofInt_mul, show ofInt 9973 = 0 from rfl] at h2
  rw [h2]; grind
theorem tmod_bound (x : Int) : -9972 ≤ x.tmod 9973 ∧ x.tmod 9973 ≤ 9972 := by
  have h1 := Int.tmod_lt_of_pos x (show (0 : Int) < 9973 by omega)
  have h2 := Int.lt_tmod_of_pos x (show (0 : Int) < 9973 by omega)
  omega
/-- A remainder made an element. -/
theorem fit (x : Int) : (x.tmod 9973 + 9973).tmod 9973 = ((ofInt x).val : Int) := by
  have h := tmod_bound x
  rw [Int.tmod_eq_emod_of_nonneg (by omega), ← ofInt_val, ofInt_add, tmod_F, show ofInt 9973 = 0 from rfl]
  congr 1; congr 1; grind

/-- How many orders there may be of so many. -/
def lv : Nat → Nat
  | 0 => 1
  | m + 1 => 5 * lv m
theorem lv_le : ∀ {m : Nat}, m ≤ 5 → lv m ≤ 3125
  | 0, _ => by decide
  | 1, _ => by decide
  | 2, _ => by decide
  | 3, _ => by decide
  | 4, _ => by decide
  | 5, _ => by decide
  | m + 6, h => absurd h (by omega)

end Go.Proofs.Ytnjhdedhobgplaa.Mx

/- Contracts of package det, first part: ascending, Sign. -/
namespace Go.Proofs.Ytnjhdedhobgplaa
open Go.ChangeShapes Go.WideShapes Go.ChangeAt Go.RowKit
set_option linter.unusedVariables false

set_option maxRecDepth 100000 in
set_option maxHeartbeats 1600000 in
theorem ascending_any (n : Nat) (w : World) (hn : n ≤ 1000) :
    Calls Try.prog 35 #[.int .i64 (n : Int)] w fun e w' =>
      e = .returned (.slice (some ⟨w.heap.size, 0, none⟩) n n) ∧ Row w' w.heap.size (Mx.row n fun i => (i : Int)) ∧ Kp w w' := by
  obtain ⟨i0, hi, hz0, hz1, hz2⟩ := info_parts int_info
  go_enter Try.func35, Try.ntmps35
  go_wp2_with (at_make; refine wpList_make_full _ rfl _ _ 22 rfl w.heap.size 3 i0 (.int .i64 0) 1 Try.underlying22 hi hz0 hz1 _ _ _ _ n rfl rfl rfl rfl (by rw [hz2]; omega) (by unfold maxLen; omega) (Nat.le_refl _) ?_; intro w1 hown hgrow)
  have HR := Lib.hid (row_made hown)
  have HK := Lib.hid (show Kp w w1 from (Kp.rfl' w).grown hgrow (by simp) (fun k hk => by cases hk))
  obtain ⟨g, hg⟩ : ∃ g, g = w.heap.size := ⟨_, rfl⟩
  rw [← hg] at HR ⊢
  have HG := Lib.hid (show w.heap.size ≤ g by omega)
  have HE := Lib.hid hg
  clear hown hgrow hg
  go_wp2_with fail
  go_loopw [9] (fun i wr => ∃ k : Nat, k ≤ n ∧ i = .int .i64 (k : Int) ∧ Row wr g (Mx.row n fun j => if j < k then (j : Int) else 0) ∧ Kp w wr) (fun i _ => n - (intOf i).toNat)
  case atStart =>
    refine ⟨0, Nat.zero_le _, rfl, ?_, HK.out⟩
    have := HR.out
    rw [Mx.row_rep] at this
    rw [show (Mx.row n fun j => if j < 0 then (j : Int) else 0) = Mx.row n fun _ => 0 from Mx.row_ext fun j _ => by rw [if_neg (by omega)]]
    exact this
  case round =>
    obtain ⟨k, hk, rfl, hr, hkp⟩ := hrel
    by_cases hlt : k < n
    · have y1 := hr.cell k (by rw [Mx.len_row]; exact hlt)
      have y2 := hr.free k
      have HP := Lib.hid (hr.put k (k : Int))
      have HQ := Lib.hid (hkp.put (p := ⟨g, k, none⟩) HG.out (.int .i64 (k : Int)))
      clear hr hkp
      go_wp2_with fail
      go_roundw
      case rel =>
        refine ⟨k + 1, by omega, by go_num, ?_, HQ.out⟩
        have := HP.out
        rw [Mx.row_set] at this
        rw [show (Mx.row n fun j => if j < k + 1 then (j : Int) else 0) = Mx.row n fun j => if j = k then (k : Int) else if j < k then (j : Int) else 0 from Mx.row_ext fun j _ => by
          by_cases e : j = k
          · rw [if_pos e, if_pos (by omega), e]
          · rw [if_neg e]
            by_cases e2 : j < k
            · rw [if_pos e2, if_pos (by omega)]
            · rw [if_neg e2, if_neg (by omega)]]
        exact this
      case measure => simp [intOf]; omega
    · obtain rfl : k = n := by omega
      have HR2 := Lib.hid (show Row wr g (Mx.row k fun i => (i : Int)) by
        rw [show (Mx.row k fun i => (i : Int)) = Mx.row k fun j => if j < k then (j : Int) else 0 from Mx.row_ext fun j hj => by rw [if_pos hj]]
        exact hr)
      have HQ := Lib.hid hkp
      clear hr hkp
      go_wp2_with fail
      go_ret
      refine ⟨?_, ?_, HQ.out⟩
      · show Ending.returned (.slice (some ⟨g, 0, none⟩) k k) = _
        rw [HE.out]
      · rw [← HE.out]; exact HR2.out

/-- Where the sorting of an order stands: x times the sign of what is left is the order's sign; the first k are at their places. -/
structure Srt (w0 w : World) (g n c : Nat) (S : Fp.F) (k : Nat) (l : List Int) (x : Int) : Prop where
  own : Own w w0.heap.size (.slice (some ⟨g, 0, none⟩) n c) l
  len : l.length = n
  pm : x = 1 ∨ x = -1
  eq : Fp.ofInt x * Mx.sp n (fun i => l.getD i 0) = S
  fix : ∀ t, t < k → l.getD t 0 = (t : Int)
  kp : Kp w0 w
theorem Srt.next {w0 w : World} {g n c : Nat} {S : Fp.F} {k : Nat} {l : List Int} {x : Int} (h : Srt w0 w g n c S k l x) (e : l.getD k 0 = (k : Int)) : Srt w0 w g n c S (k + 1) l x :=
  ⟨h.own, h.len, h.pm, h.eq, fun t ht => by
    by_cases hk : t = k
    · rw [hk]; exact e
    · exact h.fix t (by omega), h.kp⟩
theorem getD_set2 {l : List Int} {k m : Nat} (hk : k < l.length) (hm : m < l.length) (x y : Int) (i : Nat) : ((l.set k x).set m y).getD i 0 = if i = m then y else if i = k then x else l.getD i 0 := by
  rw [List.getD_eq_getElem?_getD, List.getD_eq_getElem?_getD, List.getElem?_set, List.getElem?_set]
  by_cases h1 : i = m
  · rw [if_pos h1.symm, if_pos (by simpa using hm), if_pos h1]; rfl
  · rw [if_neg (fun e => h1 e.symm), if_neg h1]
    by_cases h2 : i = k
    · rw [if_pos h2.symm, if_pos hk, if_pos h2]; rfl
    · rw [if_neg (fun e => h2 e.symm), if_neg h2]
/-- Two numbers change places: the one that stood at place k comes home. -/
theorem Srt.swap {w0 w : World} {g n c : Nat} {S : Fp.F} {k : Nat} {l : List Int} {x : Int} (h : Srt w0 w g n c S k l x) (hk : k < n) {m : Nat} (hm : m < n) (e : l.getD k 0 = (m : Int)) (hne : m ≠ k) (h2 : l.getD m 0 ≠ (m : Int)) (hB : w0.heap.size ≤ g) :
    Srt w0 ((w.setCell ⟨g, k, none⟩ (.int .i64 (l.getD m 0))).setCell ⟨g, m, none⟩ (.int .i64 (m : Int))) g n c S k ((l.set k (l.getD m 0)).set m (m : Int)) (-x) ∧
      Mx.nf n (fun i => ((l.set k (l.getD m 0)).set m (m : Int)).getD i 0) < Mx.nf n fun i => l.getD i 0 := by
  have hg : ∀ i, ((l.set k (l.getD m 0)).set m (m : Int)).getD i 0 = l.getD (Mx.sw k m i) 0 := fun i => by
    rw [getD_set2 (by rw [h.len]; exact hk) (by rw [h.len]; exact hm)]
    by_cases h1 : i = m
    · rw [if_pos h1, h1, Mx.sw_right, e]
    · rw [if_neg h1]
      by_cases h3 : i = k
      · rw [if_pos h3, h3, Mx.sw_left]
      · rw [if_neg h3, Mx.sw_none h3 h1]
  refine ⟨⟨own_put (own_put h.own k _) m _, by rw [List.length_set, List.length_set]; exact h.len, ?_, ?_, fun t ht => ?_, (h.kp.put (p := ⟨g, k, none⟩) hB _).put (p := ⟨g, m, none⟩) hB _⟩, ?_⟩
  · rcases h.pm with a | a <;> rw [a] <;> simp
  · rw [Mx.sp_congr (t := fun i => l.getD (Mx.sw k m i) 0) fun i _ => hg i, Mx.sp_swap (fun i => l.getD i 0) hk hm (fun e => hne e.symm), Mx.ofInt_neg, ← h.eq]; grind
  · have h3 := h.fix t ht
    have : t ≠ m := fun e => by rw [e] at h3; exact h2 h3
    rw [hg, Mx.sw_none (by omega) this]; exact h3
  · refine Mx.nf_lt n (m := m) (fun i hi h3 => ?_) hm h2 ?_
    · have a1 : i ≠ m := fun e => by rw [e] at h3; exact h2 h3
      have a2 : i ≠ k := fun e2 => by rw [e2] at h3; rw [h3] at e; omega
      rw [hg, Mx.sw_none a2 a1]; exact h3
    · rw [hg, Mx.sw_right]; exact e

/-- The sign of an order comes out. -/
def Signed (S : Fp.F) (w : World) (e : Ending) (w' : World) : Prop := ∃ x, e = .returned (.int .i64 x) ∧ Mx.SgnIs S x ∧ Kp w w'
set_option maxRecDepth 100000 in
set_option maxHeartbeats 3200000 in
theorem Sign_pos (A : Option Addr) (l : List Int) (n c : Nat) (w : World) (hl : Lies w A l) (hn : l.length = n) (h0 : 0 < n) (h1 : n ≤ 1000) :
    Calls Try.prog 37 #[.slice A n c] w fun e w' => Signed (Mx.sp n fun i => l.getD i 0) w e w' := by
  have CL := Lib.hid (show Calls Try.prog 31 #[.slice A n c] w fun e w' => SomeRow l w e w' by
    rw [← hn]; exact sclone_any A l c w hl (by omega))
  obtain ⟨S, hS⟩ : ∃ S, S = Mx.sp n fun i => l.getD i 0 := ⟨_, rfl⟩
  rw [← hS]
  have HS := Lib.hid hS
  have HN := Lib.hid hn
  clear hl hS hn
  go_enter Try.func37, Try.ntmps37
  go_wp2_with fail
  refine (CL.out).mono ?_; rintro e w1 ⟨v, rfl, ho, hk⟩
  obtain ⟨g, cap, rfl, hg, hcap⟩ := own_some ho (by rw [HN.out]; exact h0)
  rw [HN.out] at ho hcap ⊢
  have ST := Lib.hid (show Srt w w1 g n cap S 0 l 1 from ⟨ho, HN.out, .inl rfl, by rw [← HS.out, show Fp.ofInt 1 = 1 from rfl]; grind, fun t ht => absurd ht (by omega), hk⟩)
  have HB := Lib.hid hg
  clear ho hk hg
  go_wp2_with fail
  go_loopw [3, 11] (fun s i wr => ∃ (k : Nat) (l : List Int) (x : Int), k ≤ n ∧ i = .int .i64 (k : Int) ∧ s = .int .i64 x ∧ Srt w wr g n cap S k l x) (fun _ i _ => n - (intOf i).toNat)
  case atStart => exact ⟨0, l, 1, Nat.zero_le _, rfl, rfl, ST.out⟩
  case round =>
    clear ST HS HN
    obtain ⟨k, l, x, hk, rfl, rfl, st⟩ := hrel
    by_cases hlt : k < n
    · have ST := Lib.hid st
      clear st
      go_wp2_with fail
      go_loopg [3] (Mx.nf n fun i => l.getD i 0) (fun q s wq => ∃ (l : List Int) (x : Int), s = .int .i64 x ∧ Srt w wq g n cap S k l x ∧ Mx.nf n (fun i => l.getD i 0) = q)
      case atStart => exact ⟨l, x, rfl, ST.out, rfl⟩
      case round =>
        clear ST
        obtain ⟨l, x, rfl, st, hq⟩ := hrel
        have ST := Lib.hid st
        have HQ := Lib.hid hq
        have c1 := own_cell st.own k (by rw [st.len]; exact hlt)
        have z1 := own_free st.own k
        have hxb : -1 ≤ x ∧ x ≤ 1 := by rcases st.pm with a | a <;> omega
        obtain ⟨y, hy⟩ : ∃ y, y = l.getD k 0 := ⟨_, rfl⟩
        rw [← hy] at c1
        have HY := Lib.hid hy
        clear st hq hy
        by_cases e : y = (k : Int)
        · have e1 : (y != (k : Int)) = false := by rw [e]; simp
          have ST2 := Lib.hid (ST.out.next (by rw [← HY.out]; exact e))
          clear e
          go_wp2_with fail
          go_roundw
          case rel => exact ⟨k + 1, l, x, by omega, by go_num, rfl, ST2.out⟩
          case measure => simp [intOf]; omega
        · have e1 : (y != (k : Int)) = true := by rw [bne_iff_ne]; exact e
          have ZERO := Lib.hid (fun h : Mx.sp n (fun i => l.getD i 0) = 0 => show Mx.SgnIs S 0 from ⟨.inr (.inr rfl), by rw [← ST.out.eq, h, show Fp.ofInt 0 = 0 from rfl]; grind⟩)
          by_cases h2 : y < 0
          · have Z := Lib.hid (ZERO.out (Mx.sp_out hlt (.inl (by rw [← HY.out]; exact h2))))
            clear e ZERO
            go_wp2_with fail
            go_ret
            exact ⟨0, rfl, Z.out, ST.out.kp⟩
          · by_cases h3 : (n : Int) ≤ y
            · have Z := Lib.hid (ZERO.out (Mx.sp_out hlt (.inr (by rw [← HY.out]; exact h3))))
              clear e ZERO
              go_wp2_with fail
              go_ret
              exact ⟨0, rfl, Z.out, ST.out.kp⟩
            · obtain ⟨m, rfl⟩ : ∃ m : Nat, y = (m : Int) := ⟨y.toNat, by omega⟩
              have hm : m < n := by omega
              have hne : m ≠ k := fun h => e (by rw [h])
              have c2 := own_cell ST.out.own m (by rw [ST.out.len]; exact hm)
              obtain ⟨z, hz⟩ : ∃ z, z = l.getD m 0 := ⟨_, rfl⟩
              rw [← hz] at c2
              have HZ := Lib.hid hz
              clear hz h2 h3 e
              by_cases e2 : z = (m : Int)
              · have e3 : (z == (m : Int)) = true := by rw [e2]; simp
                have Z := Lib.hid (ZERO.out (Mx.sp_twice hlt hm (fun h => hne h.symm) (by rw [← HY.out, ← HZ.out, e2])))
                clear ZERO e2
                go_wp2_with fail
                go_ret
                exact ⟨0, rfl, Z.out, ST.out.kp⟩
              · have e3 : (z == (m : Int)) = false := by rw [beq_eq_false_iff_ne]; exact e2
                have SW := Lib.hid (ST.out.swap hlt hm HY.out.symm hne (by rw [← HZ.out]; exact e2) HB.out)
                rw [← HZ.out] at SW
                have z3 := own_free (own_put ST.out.own k z) m
                have c3 : (wr.setCell ⟨g, k, none⟩ (.int .i64 z)).cell? ⟨g, m, none⟩ = some (.int .i64 z) := by
                  have hne' : (⟨g, k, none⟩ : Addr) ≠ ⟨g, m, none⟩ := fun e' => hne (by cases e'; rfl)
                  rw [World.cell?_setCell_other (w := wr) (v := .int .i64 z) (h := hne')]; exact c2

                have hwn : IntKind.i64.wrap (-x) = -x := IntWalk.i64_in _ (by omega)
                clear ZERO e2
                go_wp2_with fail
                go_roundg (Mx.nf n fun i => ((l.set k z).set m (m : Int)).getD i 0)
                case measure => rw [← HQ.out]; exact SW.out.2
                case rel => exact ⟨(l.set k z).set m (m : Int), -x, rfl, SW.out.1, rfl⟩
    · obtain rfl : k = n := by omega
      have Z := Lib.hid (show Mx.SgnIs S x from ⟨by rcases st.pm with a | a <;> simp [a], by
        rw [← st.eq, Mx.sp_id fun i hi => st.fix i hi]; grind⟩)
      have HK := Lib.hid st.kp
      clear st
      go_wp2_with fail
      go_ret
      exact ⟨x, rfl, Z.out, HK.out⟩

set_option maxRecDepth 100000 in
theorem Sign_zero (A : Option Addr) (c : Nat) (w : World) :
    Calls Try.prog 37 #[.slice A 0 c] w fun e w' => Signed 1 w e w' := by
  have CL := Lib.hid (sclone_any A [] c w (fun k hk => absurd hk (by simp)) (by simp))
  rw [List.length_nil] at CL
  go_enter Try.func37, Try.ntmps37
  go_wp2_with fail
  refine (CL.out).mono ?_; rintro e w1 ⟨v, rfl, ho, hk⟩
  obtain ⟨A1, c1, rfl, _, _⟩ := ho.cap
  rw [List.length_nil]
  have HK := Lib.hid hk
  clear ho hk
  go_wp2_with fail
  go_loopw [3, 11] (fun s i wr => i = .int .i64 0 ∧ s = .int .i64 1 ∧ wr = w1) (fun _ i _ => 0)
  case atStart => exact ⟨rfl, rfl, rfl⟩
  case round =>
    obtain ⟨rfl, rfl, rfl⟩ := hrel
    go_wp2_with fail
    go_ret
    exact ⟨1, rfl, ⟨.inl rfl, rfl⟩, HK.out⟩
theorem Sign_any (A : Option Addr) (l : List Int) (n c : Nat) (w : World) (hl : Lies w A l) (hn : l.length = n) (h1 : n ≤ 1000) :
    Calls Try.prog 37 #[.slice A n c] w fun e w' => Signed (Mx.sp n fun i => l.getD i 0) w e w' := by
  by_cases h0 : n = 0
  · subst h0; exact Sign_zero A c w
  · exact Sign_pos A l n c w hl hn (by omega) h1

end Go.Proofs.Ytnjhdedhobgplaa

/- Square matrices: what is wrong with one. No program is named here. -/
namespace Go.Proofs.Ytnjhdedhobgplaa
set_option linter.unusedVariables false

/-- What is wrong with a matrix that should be square. -/
def qcode (most : Nat) (lo hi : Int) (m : List (List Int)) : Nat := if Mx.mcode most lo hi m = 0 ∧ m.length ≠ (m.getD 0 []).length then 3 else Mx.mcode most lo hi m
theorem qcode_le (most : Nat) (lo hi : Int) (m : List (List Int)) : qcode most lo hi m ≤ 5 := by
  unfold qcode
  split
  · omega
  · exact Mx.mcode_le _ _ _ _
theorem qcode_bad {most : Nat} {lo hi : Int} {m : List (List Int)} (h : Mx.mcode most lo hi m ≠ 0) : qcode most lo hi m = Mx.mcode most lo hi m := by
  unfold qcode; rw [if_neg (fun h' => h h'.1)]
theorem qcode_zero {most : Nat} {m : List (List Int)} (h : qcode most 0 9972 m = 0) : Mx.mcode most 0 9972 m = 0 ∧ m.length = (m.getD 0 []).length := by
  unfold qcode at h
  by_cases h0 : Mx.mcode most 0 9972 m = 0 ∧ m.length ≠ (m.getD 0 []).length
  · rw [if_pos h0] at h; cases h
  · rw [if_neg h0] at h
    exact ⟨h, Classical.byContradiction fun e => h0 ⟨h, e⟩⟩
theorem qcode_matl {most n : Nat} (f : Nat → Nat → Fp.F) (h0 : 0 < n) (h1 : n ≤ most) : qcode most 0 9972 (Mx.matl n n f) = 0 := by
  unfold qcode
  rw [if_neg fun h => h.2 (by rw [Mx.len_matl]; exact (Mx.tab_len n n _ 0 h0).symm)]
  exact Mx.mcode_matl f h0 h1 h0 h1

end Go.Proofs.Ytnjhdedhobgplaa

/- Contracts of package det, second part: the sum over all orders, Check, Of. -/
namespace Go.Proofs.Ytnjhdedhobgplaa
open Go.ChangeShapes Go.WideShapes Go.ChangeAt Go.RowKit
set_option linter.unusedVariables false

/-- The order of the numbers, the sum and the matrix, each in a block of its own. -/
structure Vis (w0 w : World) (gm gs g n d : Nat) (A : Option Addr) (s : Nat → Nat) (z : Int) : Prop where
  mb : w.cell? ⟨gm, 0, none⟩ = some (.slice A n d)
  sb : w.cell? ⟨gs, 0, none⟩ = some (.int .i64 z)
  sf : w.frozen? ⟨gs, 0, none⟩ = false
  row : Row w g (Mx.row n fun i => (s i : Int))
  kp : Kp w0 w
  ms : gm ≠ gs
  mg : gm ≠ g
  sg : gs ≠ g
  bs : w0.heap.size ≤ gs
  bg : w0.heap.size ≤ g
theorem cell_far {w : World} {a b : Addr} {v : Value} (x : Value) (hc : w.cell? b = some v) (hne : a ≠ b) : (w.setCell a x).cell? b = some v := by
  rw [World.cell?_setCell_other (w := w) (v := x) (h := hne)]; exact hc
theorem Vis.keep {w0 w w' : World} {gm gs g n d : Nat} {A : Option Addr} {s : Nat → Nat} {z : Int} (h : Vis w0 w gm gs g n d A s z) (hk : Kp w w') : Vis w0 w' gm gs g n d A s z :=
  ⟨(hk.cell (p := ⟨gm, 0, none⟩) (cell_lt h.mb)).trans h.mb, (hk.cell (p := ⟨gs, 0, none⟩) (cell_lt h.sb)).trans h.sb, (hk.frozen (p := ⟨gs, 0, none⟩) (cell_lt h.sb)).trans h.sf, h.row.keep hk, h.kp.trans hk, h.ms, h.mg, h.sg, h.bs, h.bg⟩
theorem Vis.drewN {w0 w : World} {gm gs g n d : Nat} {A : Option Addr} {s : Nat → Nat} {z : Int} (h : Vis w0 w gm gs g n d A s z) (k : Nat) : Vis w0 (w.drewN k) gm gs g n d A s z := h.keep ((Kp.rfl' w).drewN k)
theorem Vis.ext {w0 w : World} {gm gs g n d : Nat} {A : Option Addr} {s t : Nat → Nat} {z : Int} (h : Vis w0 w gm gs g n d A s z) (e : ∀ i, i < n → s i = t i) : Vis w0 w gm gs g n d A t z :=
  ⟨h.mb, h.sb, h.sf, by rw [Mx.row_ext (h := fun i => (s i : Int)) fun i hi => by rw [e i hi]]; exact h.row, h.kp, h.ms, h.mg, h.sg, h.bs, h.bg⟩
theorem Vis.add {w0 w : World} {gm gs g n d : Nat} {A : Option Addr} {s : Nat → Nat} {z : Int} (h : Vis w0 w gm gs g n d A s z) (y : Int) : Vis w0 (w.setCell ⟨gs, 0, none⟩ (.int .i64 y)) gm gs g n d A s y :=
  ⟨cell_far _ h.mb (fun e => h.ms (by cases e; rfl)), World.cell?_setCell_same _ _ _ h.sb, by simp [h.sf], h.row.far (fun e => h.sg e.symm) _, h.kp.put (p := ⟨gs, 0, none⟩) h.bs _, h.ms, h.mg, h.sg, h.bs, h.bg⟩
theorem Vis.swap {w0 w : World} {gm gs g n d : Nat} {A : Option Addr} {s : Nat → Nat} {z : Int} (h : Vis w0 w gm gs g n d A s z) {a b : Nat} (ha : a < n) (hb : b < n) :
    Vis w0 ((w.setCell ⟨g, a, none⟩ (.int .i64 (s b : Int))).setCell ⟨g, b, none⟩ (.int .i64 (s a : Int))) gm gs g n d A (fun i => s (Mx.sw a b i)) z := by
  have other : ∀ (w : World) (k b x : Nat) (v : Value), g ≠ b → w.cell? ⟨b, 0, none⟩ = some v → (w.setCell ⟨g, k, none⟩ (.int .i64 (x : Int))).cell? ⟨b, 0, none⟩ = some v := fun w k b x v hne hc => by
    have hne' : (⟨g, k, none⟩ : Addr) ≠ ⟨b, 0, none⟩ := fun e => hne (by cases e; rfl)
    exact cell_far _ hc hne'
  refine ⟨other _ _ _ _ _ (fun e => h.mg e.symm) (other _ _ _ _ _ (fun e => h.mg e.symm) h.mb), other _ _ _ _ _ (fun e => h.sg e.symm) (other _ _ _ _ _ (fun e => h.sg e.symm) h.sb), by simp [h.sf], ?_,
    (h.kp.put (p := ⟨g, a, none⟩) h.bg _).put (p := ⟨g, b, none⟩) h.bg _, h.ms, h.mg, h.sg, h.bs, h.bg⟩
  have := (h.row.put a (s b : Int)).put b (s a : Int)
  rw [Mx.row_set, Mx.row_set] at this
  rw [show (Mx.row n fun i => ((s (Mx.sw a b i) : Nat) : Int)) = Mx.row n fun j => if j = b then (s a : Int) else if j = a then (s b : Int) else (s j : Int) from Mx.row_ext fun j _ => by
    by_cases h1 : j = b
    · rw [if_pos h1, h1, Mx.sw_right]
    · rw [if_neg h1]
      by_cases h2 : j = a
      · rw [if_pos h2, h2, Mx.sw_left]
      · rw [if_neg h2, Mx.sw_none h2 h1]]
  exact this
/-- What a visit leaves: the order as it was, so much more in the sum. -/
def VisEnd (w0 : World) (gm gs g n d : Nat) (A : Option Addr) (s : Nat → Nat) (z : Int) (x : Fp.F) (b : Nat) (e : Ending) (w' : World) : Prop :=
  e = .returned (.tuple #[]) ∧ ∃ z', Vis w0 w' gm gs g n d A s z' ∧ Fp.ofInt z' = Fp.ofInt z + x ∧ -(b : Int) ≤ z' ∧ z' ≤ (b : Int)

set_option maxRecDepth 100000 in
set_option maxHeartbeats 3200000 in
theorem visit_any (w0 : World) (gm gs g n d b : Nat) (A : Option Addr) (f : Nat → Nat → Fp.F) (s : Nat → Nat) (z : Int) (w : World) (ha : LiesM w0 A (Mx.matl n n f)) (hn : n ≤ 5) (hs : ∀ i, i < n → s i < n)
    (h : Vis w0 w gm gs g n d A s z) (h1 : -(b : Int) ≤ z) (h2 : z ≤ (b : Int)) (hb : b ≤ 1000000000000) :
    Calls Try.prog 36 #[.slice (some ⟨g, 0, none⟩) n n, .pointer (some ⟨gm, 0, none⟩), .pointer (some ⟨gs, 0, none⟩)] w fun e w' =>
      VisEnd w0 gm gs g n d A s z (Mx.part' n n f s) (b + 9972) e w' := by
  have SG := Lib.hid (Sign_any (some ⟨g, 0, none⟩) (Mx.row n fun i => (s i : Int)) n n w h.row.lies (Mx.len_row _ _) (by omega))
  rw [Mx.sp_congr (t := fun i => (s i : Int)) fun i hi => Mx.row_at n (fun i => (s i : Int)) i hi] at SG
  have HA := Lib.hid ha
  have HV := Lib.hid h
  have HS := Lib.hid hs
  have HP := Lib.hid (Mx.part_end n f s)
  obtain ⟨S, hS⟩ : ∃ S, S = Mx.sp n fun i => (s i : Int) := ⟨_, rfl⟩
  rw [← hS] at SG HP
  clear ha h hs hS
  go_enter Try.func36, Try.ntmps36
  go_wp2_with fail
  refine (SG.out).mono ?_; rintro e w1 ⟨x, rfl, hx, hk⟩
  have HX := Lib.hid hx
  have HV1 := Lib.hid (HV.out.keep hk)
  clear hx hk HV SG
  go_wp2_with fail
  go_loopw [4, 11] (fun p i wr => ∃ (k : Nat) (q : Int), k ≤ n ∧ i = .int .i64 (k : Int) ∧ p = .int .i64 q ∧ -9972 ≤ q ∧ q ≤ 9972 ∧ Fp.ofInt q = S * Mx.pr k (fun i => f i (s i)) ∧ w1 = wr) (fun _ i _ => n - (intOf i).toNat)
  case atStart =>
    have := HX.out.bound
    exact ⟨0, x, Nat.zero_le _, rfl, rfl, by omega, by omega, by rw [HX.out.2]; show S = S * 1; grind, rfl⟩
  case round =>
    obtain ⟨k, q, hk, rfl, rfl, hq1, hq2, hq, rfl⟩ := hrel
    have HQ := Lib.hid hq
    clear hq
    by_cases hlt : k < n
    · have y1 := HV1.out.row.cell k (by rw [Mx.len_row]; exact hlt)
      rw [Mx.row_at _ _ _ hlt] at y1
      have y2 := HV1.out.mb
      obtain ⟨ad, A0, d0, rfl, hl0, x1, _, l1⟩ := (HA.out.keep HV1.out.kp).row hlt
      obtain ⟨j, hj⟩ : ∃ j, j = s k := ⟨_, rfl⟩
      have hjn : j < n := by rw [hj]; exact HS.out k hlt
      rw [← hj] at y1
      obtain ⟨ad1, rfl, hl1, x2⟩ := l1.el hjn
      obtain ⟨v, hv⟩ : ∃ v, v = f k j := ⟨_, rfl⟩
      rw [← hv] at x2
      have hvb := gval v
      have HT := Lib.hid (show Fp.ofInt ((q * (v.val : Int)).tmod 9973) = S * Mx.pr (k + 1) (fun i => f i (s i)) by
        rw [Mx.tmod_F, Fp.ofInt_mul, Fp.ofInt_self, HQ.out]
        show _ = S * (Mx.pr k (fun i => f i (s i)) * f k (s k))
        rw [← hj, ← hv]; grind)
      have hmb : -99440784 ≤ q * (v.val : Int) ∧ q * (v.val : Int) ≤ 99440784 := by
        have a1 : q * (v.val : Int) ≤ 9972 * 9972 := by
          rcases Int.lt_or_le q 0 with hq0 | hq0
          · have := Int.mul_le_mul_of_nonneg_right (show q ≤ 0 by omega) hvb.1; omega
          · have := Int.mul_le_mul hq2 hvb.2 hvb.1 (by omega); omega
        have a2 : -q * (v.val : Int) ≤ 9972 * 9972 := by
          rcases Int.lt_or_le (-q) 0 with hq0 | hq0
          · have := Int.mul_le_mul_of_nonneg_right (show -q ≤ 0 by omega) hvb.1; omega
          · have := Int.mul_le_mul (show -q ≤ 9972 by omega) hvb.2 hvb.1 (by omega); omega
        rw [Int.neg_mul] at a2
        omega
      have HTB := Lib.hid (Mx.tmod_bound (q * (v.val : Int)))
      generalize (v.val : Int) = u at *
      have hwm : IntKind.i64.wrap (q * u) = q * u := IntWalk.i64_in _ (by omega)
      clear hj hv hmb
      go_wp2_with fail
      go_roundw
      case rel => exact ⟨k + 1, _, by omega, by go_num, rfl, HTB.out.1, HTB.out.2, HT.out, by first | rfl | trivial⟩
      case measure => simp [intOf]; omega
    · obtain rfl : k = n := by omega
      have y1 := HV1.out.sb
      have y2 := HV1.out.sf
      have hwa : IntKind.i64.wrap (z + q) = z + q := IntWalk.i64_in _ (by omega)
      have HV2 := Lib.hid (HV1.out.add (z + q))
      have HB := Lib.hid (show -((b + 9972 : Nat) : Int) ≤ z + q ∧ z + q ≤ ((b + 9972 : Nat) : Int) by omega)
      go_wp2_with fail
      go_end0
      exact ⟨rfl, z + q, HV2.out, by rw [Fp.ofInt_add, HQ.out, HP.out], HB.out.1, HB.out.2⟩

set_option maxRecDepth 100000 in
theorem orders_base (w0 : World) (gm gs g n d b : Nat) (A : Option Addr) (f : Nat → Nat → Fp.F) (s : Nat → Nat) (z : Int) (w : World) (ha : LiesM w0 A (Mx.matl n n f)) (hn : n ≤ 5) (hs : ∀ i, i < n → s i < n)
    (h : Vis w0 w gm gs g n d A s z) (h1 : -(b : Int) ≤ z) (h2 : z ≤ (b : Int)) (hb : b ≤ 1000000000000) :
    Calls Try.prog 34 #[.slice (some ⟨g, 0, none⟩) n n, .int .i64 (n : Int), .func (.func 36) #[] #[.pointer (some ⟨gm, 0, none⟩), .pointer (some ⟨gs, 0, none⟩)]] w fun e w' =>
      VisEnd w0 gm gs g n d A s z (Mx.part' n n f s) (b + 9972) e w' := by
  have C := Lib.hid (visit_any w0 gm gs g n d b A f s z w ha hn hs h h1 h2 hb)
  have e0 : ((n : Int) == (n : Int)) = true := by simp
  clear ha hs h h1 h2 hb
  go_enter Try.func34, Try.ntmps34
  go_wp2_with fail
  refine (C.out).mono ?_; rintro e w1 ⟨rfl, hv⟩
  have HV := Lib.hid hv
  clear hv
  go_wp2_with fail
  go_end0
  exact ⟨rfl, HV.out⟩

set_option maxRecDepth 100000 in
set_option maxHeartbeats 6400000 in
theorem orders_step (w0 : World) (gm gs g n d : Nat) (A : Option Addr) (f : Nat → Nat → Fp.F) (m k : Nat) (hkm : k + (m + 1) = n) (hn : n ≤ 5)
    (ih : ∀ (s : Nat → Nat) (z : Int) (b : Nat) (w : World), (∀ i, i < n → s i < n) → Vis w0 w gm gs g n d A s z → -(b : Int) ≤ z → z ≤ (b : Int) → b + 9972 * Mx.lv m ≤ 1000000000000 →
      Calls Try.prog 34 #[.slice (some ⟨g, 0, none⟩) n n, .int .i64 ((k + 1 : Nat) : Int), .func (.func 36) #[] #[.pointer (some ⟨gm, 0, none⟩), .pointer (some ⟨gs, 0, none⟩)]] w fun e w' =>
        VisEnd w0 gm gs g n d A s z (Mx.part' n (k + 1) f s) (b + 9972 * Mx.lv m) e w')
    (s : Nat → Nat) (z : Int) (b : Nat) (w : World) (hs : ∀ i, i < n → s i < n) (h : Vis w0 w gm gs g n d A s z) (h1 : -(b : Int) ≤ z) (h2 : z ≤ (b : Int)) (hb : b + 9972 * Mx.lv (m + 1) ≤ 1000000000000) :
    Calls Try.prog 34 #[.slice (some ⟨g, 0, none⟩) n n, .int .i64 (k : Int), .func (.func 36) #[] #[.pointer (some ⟨gm, 0, none⟩), .pointer (some ⟨gs, 0, none⟩)]] w fun e w' =>
      VisEnd w0 gm gs g n d A s z (Mx.part' n k f s) (b + 9972 * Mx.lv (m + 1)) e w' := by
  have IH := Lib.hid ih
  have HV := Lib.hid h
  have HS := Lib.hid hs
  have HP := Lib.hid (Mx.part_next (n := n) (k := k) f s (by omega))
  have HB := Lib.hid (show Mx.lv (m + 1) = 5 * Mx.lv m from rfl)
  have HZ := Lib.hid (And.intro h1 h2)
  have HM := Lib.hid (And.intro hkm hb)
  have hkn : k < n := by omega
  have e0 : ((k : Int) == (n : Int)) = false := by rw [beq_eq_false_iff_ne]; omega
  clear ih h hs h1 h2 hb hkm
  go_enter Try.func34, Try.ntmps34
  go_wp2_with fail
  go_loopw [6] (fun i wr => ∃ (j t : Nat) (y : Int), j = k + t ∧ j ≤ n ∧ i = .int .i64 (j : Int) ∧ Vis w0 wr gm gs g n d A s y ∧ Fp.ofInt y = Fp.ofInt z + Mx.sg t (fun t => Mx.part' n (k + 1) f fun i => s (Mx.sw k (k + t) i)) ∧ -((b + 9972 * (t * Mx.lv m) : Nat) : Int) ≤ y ∧ y ≤ ((b + 9972 * (t * Mx.lv m) : Nat) : Int)) (fun i _ => n - (intOf i).toNat)
  case atStart => exact ⟨k, 0, z, rfl, by omega, rfl, HV.out, by rw [Mx.sg_zero]; grind, by simpa using HZ.out.1, by simpa using HZ.out.2⟩
  case round =>
    clear HV
    obtain ⟨j, t, y, hjt, hjn, rfl, hv, hy, hy1, hy2⟩ := hrel
    have HJ := Lib.hid hjt
    have HV := Lib.hid hv
    have HY := Lib.hid hy
    have HYB := Lib.hid (And.intro hy1 hy2)
    clear hjt hv hy hy1 hy2
    by_cases hlt : j < n
    · have y1 := HV.out.row.cell k (by rw [Mx.len_row]; exact hkn)
      have y2 := HV.out.row.cell j (by rw [Mx.len_row]; exact hlt)
      have y3 := HV.out.row.free k
      have y4 := HV.out.row.free j
      rw [Mx.row_at _ _ _ hkn] at y1
      rw [Mx.row_at _ _ _ hlt] at y2
      have SW := HV.out.swap hkn hlt
      have y5 := (HV.out.row.put k (s j : Int)).free j
      have y6 : ∃ v, (wr.setCell ⟨g, k, none⟩ (.int .i64 (s j : Int))).cell? ⟨g, j, none⟩ = some v := ⟨_, (HV.out.row.put k (s j : Int)).cell j (by rw [List.length_set, Mx.len_row]; exact hlt)⟩
      obtain ⟨v6, y6⟩ := y6
      obtain ⟨sk, hsk⟩ : ∃ x : Int, x = (s k : Int) := ⟨_, rfl⟩
      obtain ⟨sj, hsj⟩ : ∃ x : Int, x = (s j : Int) := ⟨_, rfl⟩
      rw [← hsk] at y1 SW
      rw [← hsj] at y2 y5 y6 SW
      have hs' : ∀ i, i < n → (fun i => s (Mx.sw k j i)) i < n := fun i hi => HS.out _ (Mx.sw_lt hkn hlt hi)
      have hm : 9972 * (t * Mx.lv m) + 9972 * Mx.lv m = 9972 * ((t + 1) * Mx.lv m) := by rw [show (t + 1) * Mx.lv m = t * Mx.lv m + Mx.lv m from Nat.succ_mul _ _]; omega
      have hle : b + 9972 * ((t + 1) * Mx.lv m) ≤ 1000000000000 := by
        have a1 : (t + 1) * Mx.lv m ≤ 5 * Mx.lv m := Nat.mul_le_mul_right _ (by have := HJ.out; omega)
        have := HM.out.2
        rw [HB.out] at this
        omega
      have CALL := Lib.hid (fun w1 (hv : Vis w0 w1 gm gs g n d A (fun i => s (Mx.sw k j i)) y) => IH.out (fun i => s (Mx.sw k j i)) y (b + 9972 * (t * Mx.lv m)) w1 hs' hv HYB.out.1 HYB.out.2 (by omega))
      rw [show b + 9972 * (t * Mx.lv m) + 9972 * Mx.lv m = b + 9972 * ((t + 1) * Mx.lv m) by omega] at CALL
      have SWH := Lib.hid SW
      have hwk : IntKind.i64.wrap ((k : Int) + 1) = ((k + 1 : Nat) : Int) := by rw [IntWalk.i64_in _ (by omega)]; omega
      have HSK := Lib.hid (And.intro hsk hsj)
      clear SW hs' hm hle hsk hsj
      go_wp2_with fail
      go_region_law (fail)
      all_goals
        go_wp2_with fail
        refine (CALL.out _ (SWH.out.drewN 1)).mono ?_; rintro e w2 ⟨rfl, y', hv2, hy', hb1, hb2⟩
        have HV2 := Lib.hid hv2
        have HY2 := Lib.hid hy'
        have HB2 := Lib.hid (And.intro hb1 hb2)
        have x1 := hv2.row.cell k (by rw [Mx.len_row]; exact hkn)
        have x2 := hv2.row.cell j (by rw [Mx.len_row]; exact hlt)
        have x3 := hv2.row.free k
        have x4 := hv2.row.free j
        rw [Mx.row_at _ _ _ hkn, Mx.sw_left, ← HSK.out.2] at x1
        rw [Mx.row_at _ _ _ hlt, Mx.sw_right, ← HSK.out.1] at x2
        have x5 := (hv2.row.put k sk).free j
        have x6 : ∃ v, (w2.setCell ⟨g, k, none⟩ (.int .i64 sk)).cell? ⟨g, j, none⟩ = some v := ⟨_, (hv2.row.put k sk).cell j (by rw [List.length_set, Mx.len_row]; exact hlt)⟩
        obtain ⟨v7, x6⟩ := x6
        have SW2 := (hv2.swap hkn hlt).ext (t := s) fun i _ => by rw [Mx.sw_sw]
        simp only [Mx.sw_left, Mx.sw_right] at SW2
        rw [← HSK.out.1, ← HSK.out.2] at SW2
        have SWH2 := Lib.hid SW2
        clear SW2 hv2 hy' hb1 hb2 y1 y2 y3 y4 y5 y6
        go_wp2_with fail
        go_region_law (fail)
        all_goals
          go_wp2_with fail
          go_roundw
          case rel => exact ⟨j + 1, t + 1, y', by rw [HJ.out]; omega, by omega, by go_num, SWH2.out.drewN 1, by rw [HY2.out, HY.out, Mx.sg_succ, HJ.out]; grind, HB2.out.1, HB2.out.2⟩
          case measure => simp [intOf]; omega
    · have HE := Lib.hid (show t = m + 1 ∧ j = n by have := HJ.out; have := HM.out.1; omega)
      have HL := Lib.hid (show t * Mx.lv m ≤ Mx.lv (m + 1) by
        rw [HE.out.1, HB.out]; exact Nat.mul_le_mul_right _ (by have := HM.out.1; omega))
      go_wp2_with fail
      go_end0
      refine ⟨rfl, y, HV.out, ?_, ?_, ?_⟩
      · rw [HY.out, ← HP.out, show n - k = t by have := HJ.out; have := HE.out; omega]
      · have := HYB.out.1; have := HL.out; omega
      · have := HYB.out.2; have := HL.out; omega
theorem orders_any (w0 : World) (gm gs g n d : Nat) (A : Option Addr) (f : Nat → Nat → Fp.F) (ha : LiesM w0 A (Mx.matl n n f)) (hn : n ≤ 5) :
    ∀ (m k : Nat), k + m = n → ∀ (s : Nat → Nat) (z : Int) (b : Nat) (w : World), (∀ i, i < n → s i < n) → Vis w0 w gm gs g n d A s z → -(b : Int) ≤ z → z ≤ (b : Int) → b + 9972 * Mx.lv m ≤ 1000000000000 →
      Calls Try.prog 34 #[.slice (some ⟨g, 0, none⟩) n n, .int .i64 (k : Int), .func (.func 36) #[] #[.pointer (some ⟨gm, 0, none⟩), .pointer (some ⟨gs, 0, none⟩)]] w fun e w' =>
        VisEnd w0 gm gs g n d A s z (Mx.part' n k f s) (b + 9972 * Mx.lv m) e w'
  | 0, k, hkm => fun s z b w hs h h1 h2 hb => by
    obtain rfl : k = n := by omega
    exact orders_base w0 gm gs g k d b A f s z w ha hn hs h h1 h2 (by omega)
  | m + 1, k, hkm => fun s z b w hs h h1 h2 hb => orders_step w0 gm gs g n d A f m k hkm hn (orders_any w0 gm gs g n d A f ha hn m (k + 1) (by omega)) s z b w hs h h1 h2 hb

end Go.Proofs.Ytnjhdedhobgplaa

/- Contracts of package det, third part: Check, Of. -/
namespace Go.Proofs.Ytnjhdedhobgplaa
open Go.ChangeShapes Go.WideShapes Go.ChangeAt Go.RowKit
set_option linter.unusedVariables false

set_option maxRecDepth 100000 in
set_option maxHeartbeats 1600000 in
theorem DChk_any (A : Option Addr) (m : List (List Int)) (n d : Nat) (w : World) (ha : LiesM w A m) (hn : m.length = n) :
    Calls Try.prog 33 #[.slice A n d] w fun e w' => e = .returned (errOf (qcode 5 0 9972 m)) ∧ w = w' := by
  have CK := Lib.hid (Check_any A m n d w ha hn)
  by_cases h0 : Mx.mcode 5 0 9972 m = 0
  · have h0n : 0 < m.length := by
      rcases Nat.eq_zero_or_pos m.length with h | h
      · exfalso; unfold Mx.mcode at h0; rw [if_pos (.inl h)] at h0; cases h0
      · exact h
    obtain ⟨ad, A0, d0, rfl, hl0, hc0, _, _⟩ := ha 0 h0n
    rw [add_zero'] at hc0
    have EV := Lib.hid (show qcode 5 0 9972 m = if n ≠ (m.getD 0 []).length then 3 else 0 by
      unfold qcode
      rw [h0, hn]
      by_cases h : n ≠ (m.getD 0 []).length
      · rw [if_pos ⟨rfl, h⟩, if_pos h]
      · rw [if_neg (fun h' => h h'.2), if_neg h])
    rw [h0, errOf_zero] at CK
    have hn0 : 0 < n := by omega
    generalize (m.getD 0 []).length = q at *
    generalize qcode 5 0 9972 m = z at *
    clear ha h0 hn h0n
    by_cases hq : n = q
    · subst hq
      obtain rfl : z = 0 := by rw [EV.out, if_neg (fun h => h rfl)]
      rw [errOf_zero]
      have e1 : ((n : Int) != (n : Int)) = false := by simp
      clear EV
      go_enter Try.func33, Try.ntmps33
      go_wp2_with fail
      refine (CK.out).mono ?_; rintro e w' ⟨rfl, rfl⟩
      go_wp2_with fail
      go_ret
      exact ⟨rfl, rfl⟩
    · obtain rfl : z = 3 := by rw [EV.out, if_pos hq]
      rw [errOf_ne 3 (by omega)]
      have e1 : ((n : Int) != (q : Int)) = true := by rw [bne_iff_ne]; omega
      clear EV hq
      go_enter Try.func33, Try.ntmps33
      go_wp2_with fail
      refine (CK.out).mono ?_; rintro e w' ⟨rfl, rfl⟩
      go_wp2_with fail
      go_ret
      exact ⟨rfl, rfl⟩
  · rw [qcode_bad h0]
    rw [errOf_ne _ h0] at CK ⊢
    generalize Mx.mcode 5 0 9972 m = z at *
    clear ha hn h0
    go_enter Try.func33, Try.ntmps33
    go_wp2_with fail
    refine (CK.out).mono ?_; rintro e w' ⟨rfl, rfl⟩
    go_wp2_with fail
    go_ret
    exact ⟨rfl, rfl⟩

set_option maxRecDepth 100000 in
set_option maxHeartbeats 1600000 in
theorem Of_bad (A : Option Addr) (m : List (List Int)) (n d : Nat) (w : World) (ha : LiesM w A m) (hn : m.length = n) (h : qcode 5 0 9972 m ≠ 0) :
    Calls Try.prog 19 #[.slice A n d] w fun e w' => e = .returned (.tuple #[.int .i64 0, errOf (qcode 5 0 9972 m)]) ∧ Kp w w' := by
  have CK := Lib.hid (fun w (ha : LiesM w A m) => DChk_any A m n d w ha hn)
  rw [errOf_ne _ h] at CK ⊢
  have HA := Lib.hid ha
  generalize qcode 5 0 9972 m = z at *
  clear ha hn h
  go_enter Try.func19, Try.ntmps19
  go_wp2_with fail
  refine (CK.out _ (HA.out.keep ((Kp.rfl' w).new _))).mono ?_; rintro e w' ⟨rfl, rfl⟩
  go_wp2_with fail
  go_ret2
  exact ⟨rfl, (Kp.rfl' w).new _⟩

theorem orders_top (w0 : World) (gm gs g n d : Nat) (A : Option Addr) (f : Nat → Nat → Fp.F) (w : World) (ha : LiesM w0 A (Mx.matl n n f)) (hn : n ≤ 5) (h : Vis w0 w gm gs g n d A (fun i => i) 0) :
    Calls Try.prog 34 #[.slice (some ⟨g, 0, none⟩) n n, .int .i64 0, .func (.func 36) #[] #[.pointer (some ⟨gm, 0, none⟩), .pointer (some ⟨gs, 0, none⟩)]] w fun e w' =>
      VisEnd w0 gm gs g n d A (fun i => i) 0 (Mx.dt n f) 100000000 e w' := by
  have h1 := orders_any w0 gm gs g n d A f ha hn n 0 (by omega) (fun i => i) 0 0 w (fun i hi => hi) h (by omega) (by omega) (by have := Mx.lv_le hn; omega)
  rw [Mx.part_zero (n := n) f (s := fun i => i) fun j _ => rfl] at h1
  refine h1.mono ?_
  rintro e w' ⟨he, z, hv, hz, h2, h3⟩
  have := Mx.lv_le hn
  exact ⟨he, z, hv, hz, by omega, by omega⟩
theorem vis_made {w w2 : World} {n d : Nat} {T U : TypeId} (A : Option Addr)
    (hr : Row w2 ((w.alloc (.cells #[.slice A n d] T)).alloc (.cells #[.int .i64 0] U)).heap.size (Mx.row n fun i => (i : Int)))
    (hk : Kp ((w.alloc (.cells #[.slice A n d] T)).alloc (.cells #[.int .i64 0] U)) w2) : Vis w w2 w.heap.size (w.heap.size + 1) (w.heap.size + 2) n d A (fun i => i) 0 := by
  have e1 : (w.alloc (.cells #[.slice A n d] T)).heap.size = w.heap.size + 1 := by simp
  have e2 : ((w.alloc (.cells #[.slice A n d] T)).alloc (.cells #[.int .i64 0] U)).heap.size = w.heap.size + 2 := by simp
  have c1 : (w.alloc (.cells #[.slice A n d] T)).cell? ⟨w.heap.size, 0, none⟩ = some (.slice A n d) := (cell_made w #[.slice A n d] T w.heap.size 0 rfl).trans rfl
  have c2 : ((w.alloc (.cells #[.slice A n d] T)).alloc (.cells #[.int .i64 0] U)).cell? ⟨w.heap.size + 1, 0, none⟩ = some (.int .i64 0) := (cell_made (w.alloc (.cells #[.slice A n d] T)) #[.int .i64 0] U (w.heap.size + 1) 0 e1.symm).trans rfl
  have c3 : ((w.alloc (.cells #[.slice A n d] T)).alloc (.cells #[.int .i64 0] U)).cell? ⟨w.heap.size, 0, none⟩ = some (.slice A n d) :=
    (((Kp.rfl' (w.alloc (.cells #[.slice A n d] T))).new _).cell (p := ⟨w.heap.size, 0, none⟩) (by rw [e1]; exact Nat.lt_succ_self _)).trans c1
  have z2 : ((w.alloc (.cells #[.slice A n d] T)).alloc (.cells #[.int .i64 0] U)).frozen? ⟨w.heap.size + 1, 0, none⟩ = false := by simp
  rw [e2] at hr
  exact ⟨(hk.cell (p := ⟨w.heap.size, 0, none⟩) (cell_lt c3)).trans c3, (hk.cell (p := ⟨w.heap.size + 1, 0, none⟩) (cell_lt c2)).trans c2, (hk.frozen (p := ⟨w.heap.size + 1, 0, none⟩) (cell_lt c2)).trans z2, hr,
    (((Kp.rfl' w).new _).new _).trans hk, by omega, by omega, by omega, by omega, by omega⟩

set_option maxRecDepth 100000 in
set_option maxHeartbeats 1600000 in
theorem Of_ok (A : Option Addr) (f : Nat → Nat → Fp.F) (n d : Nat) (w : World) (ha : LiesM w A (Mx.matl n n f)) (h0 : 0 < n) (hn : n ≤ 5) :
    Calls Try.prog 19 #[.slice A n d] w fun e w' => e = .returned (.tuple #[.int .i64 ((Mx.dt n f).val : Int), .nilIface]) ∧ Kp w w' := by
  have CK := Lib.hid (fun w (ha : LiesM w A (Mx.matl n n f)) => DChk_any A (Mx.matl n n f) n d w ha (Mx.len_matl _ _ _))
  rw [qcode_matl f h0 hn, errOf_zero] at CK
  have HA := Lib.hid ha
  have AS := Lib.hid (fun w => ascending_any n w (by omega))
  have OR := Lib.hid (fun gm gs g w1 h => orders_top w gm gs g n d A f w1 ha hn h)
  generalize Mx.dt n f = dd at *
  clear ha
  go_enter Try.func19, Try.ntmps19
  go_wp2_with fail
  refine (CK.out _ (HA.out.keep ((Kp.rfl' w).new _))).mono ?_; rintro e w' ⟨rfl, rfl⟩
  go_wp2_with fail
  refine (AS.out _).mono ?_; rintro e w2 ⟨rfl, hr, hk⟩
  have VS := Lib.hid (vis_made (n := n) (d := d) A hr hk)
  clear hr hk
  go_wp2_with fail
  refine (OR.out _ _ _ _ VS.out).mono ?_; rintro e w3 ⟨rfl, z, hv, hz, hz1, hz2⟩
  have y1 := hv.sb
  have HK := Lib.hid hv.kp
  have hzb : -100000000 ≤ z ∧ z ≤ 100000000 := by omega
  have HR := Lib.hid (Mx.fit z)
  rw [hz, show Fp.ofInt 0 + dd = dd by rw [show Fp.ofInt 0 = 0 from rfl]; grind] at HR
  have hb := Mx.tmod_bound z
  have hwa : IntKind.i64.wrap (z.tmod 9973 + 9973) = z.tmod 9973 + 9973 := IntWalk.i64_in _ (by omega)
  clear hv hz hz1 hz2 hb
  go_wp2_with fail
  go_ret2
  refine ⟨?_, HK.out⟩
  show Ending.returned (.tuple #[.int .i64 ((z.tmod 9973 + 9973).tmod 9973), .nilIface]) = _
  rw [HR.out]

end Go.Proofs.Ytnjhdedhobgplaa

/- Contracts of package result, last part: Full and Of. -/
namespace Go.Proofs.Ytnjhdedhobgplaa
open Go.ChangeShapes Go.WideShapes Go.ChangeAt Go.RowKit Go.Shelf
set_option linter.unusedVariables false

theorem ReFull_bad (A B : Option Addr) (L M : List Int) (c d : Nat) (w : World) (ha : Lies w A L) (hb : Lies w B M) (bL : L.length ≤ 9223372036854775807) (bM : M.length ≤ 9223372036854775807) (h : recd L M ≠ 0) :
    Calls Try.prog 18 #[.slice A L.length c, .slice B M.length d] w fun e w' => e = .returned (.tuple #[.slice none 0 0, errOf (recd L M)]) ∧ w = w' := by
  have CK := Lib.hid (reChk_any A B L M c d w ha hb bL bM)
  rw [errOf_ne _ h] at CK ⊢
  generalize recd L M = z at *
  generalize L.length = n at *
  generalize M.length = m at *
  clear ha hb h
  go_enter Try.func18, Try.ntmps18
  go_wp2_with fail
  refine (CK.out).mono ?_; rintro e w' ⟨rfl, rfl⟩
  go_wp2_with fail
  go_ret2
  exact ⟨rfl, rfl⟩

set_option maxRecDepth 100000 in
set_option maxHeartbeats 6400000 in
theorem ReFull_ok {p q : List Fp.F} {L M : List Int} (s : Re p q L M) (A B : Option Addr) (c d : Nat) (w : World) (ha : Lies w A L) (hb : Lies w B M) :
    Calls Try.prog 18 #[.slice A p.length c, .slice B q.length d] w fun e w' => MadeM (p.length - 1 + (q.length - 1)) (Mx.smx p q) w e w' := by
  have CK := Lib.hid (reChk_good s A B c d w ha hb)
  have hp0 := s.p0
  have hq0 := s.q0
  have lo := s.lo
  have hi := s.hi
  obtain ⟨k, hk⟩ : ∃ k, p.length = k + 1 := ⟨p.length - 1, by omega⟩
  obtain ⟨j, hj⟩ : ∃ j, q.length = j + 1 := ⟨q.length - 1, by omega⟩
  obtain ⟨N, hN⟩ : ∃ N, N = k + j := ⟨_, rfl⟩
  have D1 := Lib.hid (fun w' => deg_any A p.length k c w' hk (by omega))
  have D2 := Lib.hid (fun w' => deg_any B q.length j d w' hj (by omega))
  have ADD1 := Lib.hid (fun (w1 : World) (b1 : Boxed w1 w.heap.size 3 (.int .i64 (N : Int))) (b2 : Boxed w1 (w.heap.size + 1) 37 (.slice none 0 0)) (k1 : Kp w w1) =>
    add_any w w1 A p p.length c N 0 j w.heap.size (w.heap.size + 1) (Mx.smx p q) _ (fun _ => 0) (fun _ => 0) rfl (by have h := ha.keep k1; rw [s.l] at h; exact h) hp0 (by omega) (by omega) (by omega) (by omega) b1 b2 (ownM_none _ _ _ _) k1 (by omega) (by omega)
      (fun i x hi hx => by
        unfold Mx.smx
        rw [show p.length - 1 = k by omega, show q.length - 1 = j by omega, Nat.zero_add, Mx.syd_first _ _ hi, hk]))
  have ADD2 := Lib.hid (fun (w1 : World) (v : Value) (G C : Nat → Nat) (b1 : Boxed w1 w.heap.size 3 (.int .i64 (N : Int))) (b2 : Boxed w1 (w.heap.size + 1) 37 v) (o : OwnM w1 w.heap.size v G C (Mx.matl (0 + j) N (Mx.smx p q))) (k1 : Kp w w1) =>
    add_any w w1 B q q.length d N (0 + j) k w.heap.size (w.heap.size + 1) (Mx.smx p q) v G C rfl (by have h := hb.keep k1; rw [s.m] at h; exact h) hq0 (by omega) (by omega) (by omega) (by omega) b1 b2 o k1 (by omega) (by omega)
      (fun i x hi hx => by
        unfold Mx.smx
        rw [show p.length - 1 = k by omega, show q.length - 1 = j by omega, Nat.zero_add, Mx.syd_last _ _ (show ¬ j + i < j by omega), hj, Nat.add_sub_cancel_left]))
  have HNN := Lib.hid (show p.length - 1 + (q.length - 1) = N by omega)
  rw [HNN.out]
  have HJ := Lib.hid (show 0 + j + k = N by omega)
  have e1 : (k : Int) + (j : Int) = (N : Int) := by omega
  have e2 : IntKind.i64.wrap (N : Int) = (N : Int) := IntWalk.i64_in _ (by omega)
  generalize Mx.smx p q = F at *
  generalize p.length = n at *
  generalize q.length = m at *
  clear ha hb s hk hj hN
  go_enter Try.func18, Try.ntmps18
  go_wp2_with fail
  refine (CK.out).mono ?_; rintro e w' ⟨rfl, rfl⟩
  go_wp2_with fail
  refine (D1.out _).mono ?_; rintro e w' ⟨rfl, rfl⟩
  go_wp2_with fail
  refine (D2.out _).mono ?_; rintro e w' ⟨rfl, rfl⟩
  go_wp2_with fail
  refine (D2.out _).mono ?_; rintro e w' ⟨rfl, rfl⟩
  go_wp2_with fail
  refine (ADD1.out _ ((Boxed.new w 3 (.int .i64 (N : Int))).alloc _) (by
    have := Boxed.new (w.alloc (.cells #[.int .i64 (N : Int)] 3)) 37 (.slice none 0 0)
    rwa [World.size_alloc] at this) (((Kp.rfl' w).new _).new _)).mono ?_; rintro e w1 ⟨rfl, v1, G1, C1, b1, b2, o1, k1⟩
  have ADD := Lib.hid (ADD2.out w1 v1 G1 C1 b1 b2 o1 k1)
  clear b1 b2 o1 k1 ADD1 ADD2
  go_wp2_with fail
  refine (D1.out _).mono ?_; rintro e w' ⟨rfl, rfl⟩
  go_wp2_with fail
  refine (ADD.out).mono ?_; rintro e w2 ⟨rfl, v2, G2, C2, b1, b2, o1, k1⟩
  rw [HJ.out] at o1
  obtain ⟨Av, cv, rfl, hl, hc⟩ := o1.lies
  rw [Mx.len_matl] at b2 hc
  have x2 := b2.cell
  have HL := Lib.hid hl
  have HK := Lib.hid k1
  have HC := Lib.hid hc
  clear b1 b2 o1 k1 hl hc
  go_wp2_with fail
  go_ret2
  exact ⟨Av, cv, rfl, HC.out, HL.out, HK.out⟩

theorem ReOf_bad (A B : Option Addr) (L M : List Int) (c d : Nat) (w : World) (ha : Lies w A L) (hb : Lies w B M) (bL : L.length ≤ 9223372036854775807) (bM : M.length ≤ 9223372036854775807) (h : recd L M ≠ 0) :
    Calls Try.prog 9 #[.slice A L.length c, .slice B M.length d] w fun e w' => e = .returned (.tuple #[.int .i64 0, errOf (recd L M)]) ∧ w = w' := by
  have CK := Lib.hid (ReFull_bad A B L M c d w ha hb bL bM h)
  rw [errOf_ne _ h] at CK ⊢
  generalize recd L M = z at *
  generalize L.length = n at *
  generalize M.length = m at *
  clear ha hb h
  go_enter Try.func9, Try.ntmps9
  go_wp2_with fail
  refine (CK.out).mono ?_; rintro e w' ⟨rfl, rfl⟩
  go_wp2_with fail
  go_ret2
  exact ⟨rfl, rfl⟩
theorem ReOf_ok {p q : List Fp.F} {L M : List Int} (s : Re p q L M) (A B : Option Addr) (c d : Nat) (w : World) (ha : Lies w A L) (hb : Lies w B M) :
    Calls Try.prog 9 #[.slice A p.length c, .slice B q.length d] w fun e w' => e = .returned (.tuple #[.int .i64 ((Mx.res p q).val : Int), .nilIface]) ∧ Kp w w' := by
  have FU := Lib.hid (ReFull_ok s A B c d w ha hb)
  have DE := Lib.hid (fun (A' : Option Addr) (d' : Nat) (w' : World) (h : LiesM w' A' (Mx.matl (p.length - 1 + (q.length - 1)) (p.length - 1 + (q.length - 1)) (Mx.smx p q))) => Of_ok A' (Mx.smx p q) (p.length - 1 + (q.length - 1)) d' w' h (by have := s.lo; have := s.p0; have := s.q0; omega) (by have := s.hi; have := s.p0; have := s.q0; omega))
  unfold MadeM at FU
  unfold Mx.res
  generalize Mx.dt (p.length - 1 + (q.length - 1)) (Mx.smx p q) = x at *
  generalize Mx.smx p q = F at *
  generalize p.length - 1 + (q.length - 1) = N at *
  generalize p.length = n at *
  generalize q.length = m at *
  clear ha hb s
  go_enter Try.func9, Try.ntmps9
  go_wp2_with fail
  refine (FU.out).mono ?_; rintro e w1 ⟨A1, d1, rfl, _, hl, k1⟩
  have DD := Lib.hid (DE.out A1 d1 w1 hl)
  have HK := Lib.hid k1
  clear hl k1 DE FU
  go_wp2_with fail
  refine (DD.out).mono ?_; rintro e w2 ⟨rfl, k2⟩
  have HK2 := Lib.hid (HK.out.trans k2)
  clear k2
  go_wp2_with fail
  go_ret2
  exact ⟨rfl, HK2.out⟩

end Go.Proofs.Ytnjhdedhobgplaa

/- Package result in the laws' words: what comes in are two rows of a matrix, or every call fails; the closed fact. -/
namespace Go.Proofs.Ytnjhdedhobgplaa
open Go.ChangeShapes Go.WideShapes Go.ChangeAt Go.RowKit
set_option linter.unusedVariables false

theorem ReOf_no {L M : List Int} (h : recd L M ≠ 0) (bL : L.length ≤ 9223372036854775807) (bM : M.length ≤ 9223372036854775807) (A B : Option Addr) (c d : Nat) (w : World) (ha : Lies w A L) (hb : Lies w B M) :
    Calls Try.prog 9 #[.slice A L.length c, .slice B M.length d] w fun e w' => ∃ z : Nat, e = .returned (.tuple #[.int .i64 0, .iface 47 (.int .i64 (z : Int))]) ∧ w = w' :=
  (ReOf_bad A B L M c d w ha hb bL bM h).mono fun e w' h' => ⟨recd L M, by rw [h'.1, errOf_ne _ h], h'.2⟩
theorem re11 : Re [1, 1] [2, 0, 1] [1, 1] [2, 0, 1] := ⟨by decide, by decide, fun _ => by decide, fun _ => by decide, by decide, by decide, by decide, by decide⟩
theorem res11 : (Mx.res [1, 1] [2, 0, 1]).val = 3 := by decide +kernel
theorem fact11_any (w : World) (A B : Option Addr) (ha : Lies w A [1, 1]) (hb : Lies w B [2, 0, 1]) :
    Calls Try.prog 9 #[.slice A 2 2, .slice B 3 3] w fun e w' => e = .returned (.tuple #[.int .i64 3, .nilIface]) ∧ Kp w w' := by
  have h := ReOf_ok re11 A B 2 3 w ha hb
  rw [res11] at h
  exact h
theorem fact11_lit (w : World) :
    Calls Try.prog 9 #[.slice (some ⟨w.heap.size, 0, none⟩) 2 2, .slice (some ⟨w.heap.size + 1, 0, none⟩) 3 3]
      ((w.alloc (.cells #[.int .i64 1, .int .i64 1] 3)).alloc (.cells #[.int .i64 2, .int .i64 0, .int .i64 1] 3)) fun e w' => e = .returned (.tuple #[.int .i64 3, .nilIface]) ∧ Kp w w' := by
  have h1 : Lies ((w.alloc (.cells #[.int .i64 1, .int .i64 1] 3)).alloc (.cells #[.int .i64 2, .int .i64 0, .int .i64 1] 3)) (some ⟨w.heap.size, 0, none⟩) [1, 1] := (lies_new w 3 [1, 1]).keep ((Kp.rfl' _).new _)
  have h2 : Lies ((w.alloc (.cells #[.int .i64 1, .int .i64 1] 3)).alloc (.cells #[.int .i64 2, .int .i64 0, .int .i64 1] 3)) (some ⟨w.heap.size + 1, 0, none⟩) [2, 0, 1] := lies_new' (w.alloc (.cells #[.int .i64 1, .int .i64 1] 3)) 3 [2, 0, 1] (w.heap.size + 1) (by rw [World.size_alloc])
  refine (fact11_any _ _ _ h1 h2).mono ?_
  rintro e w' ⟨he, k⟩
  exact ⟨he, (((Kp.rfl' w).new _).new _).trans k⟩
set_option maxRecDepth 100000 in
set_option maxHeartbeats 1600000 in
theorem resultFact_any (w : World) : Calls Try.prog 8 #[] w fun e w' => e = .returned (.bool true) ∧ Kp w w' := by
  have F := Lib.hid (fact11_lit w)
  go_enter Try.func8, Try.ntmps8
  go_wp2_with fail
  refine (F.out).mono ?_; rintro e w1 ⟨rfl, k1⟩
  have K := Lib.hid k1
  clear k1
  go_wp2_with fail
  go_ret
  exact ⟨rfl, K.out⟩

end Go.Proofs.Ytnjhdedhobgplaa

/- Contracts of package poly, first part: a row of memory of the call's own, Check, checkBoth, trimmed. -/
namespace Go.Proofs.Ytnjhdedhobgplaa
open Go.ChangeShapes Go.WideShapes Go.ChangeAt Go.RowKit
set_option linter.unusedVariables false

theorem check_full (A : Option Addr) (l : List Int) (c : Nat) (w : World) (h : 12 < l.length) :
    Calls Try.prog 25 #[.slice A l.length c] w fun e w' => e = .returned (errOf (Pol.code l)) ∧ w = w' := by
  rw [Pol.code_full h]
  generalize l.length = n at *
  have h' : (12 : Int) < n := by omega
  go_enter Try.func25, Try.ntmps25
  go_wp2
  go_ret
  exact ⟨rfl, rfl⟩

set_option maxHeartbeats 800000 in
theorem check_few (A : Option Addr) (l : List Int) (c : Nat) (w : World) (hl : Lies w A l) (hn : ¬ 12 < l.length) :
    Calls Try.prog 25 #[.slice A l.length c] w fun e w' => e = .returned (errOf (Pol.code l)) ∧ w = w' := by
  have HL := Lib.hid hl
  have BAD := Lib.hid (fun k hk h => Pol.code_range hn (k := k) hk h)
  have OK := Lib.hid (Pol.code_ok hn)
  obtain ⟨n, hn'⟩ : ∃ n, n = l.length := ⟨_, rfl⟩
  rw [← hn'] at hn ⊢
  rw [← hn'] at BAD OK
  have HN := Lib.hid hn'
  have h' : ¬ (12 : Int) < n := by omega
  obtain ⟨v, hv⟩ : ∃ v, v = Pol.code l := ⟨_, rfl⟩
  rw [← hv] at BAD OK ⊢
  clear hl hn' hv
  go_enter Try.func25, Try.ntmps25
  go_wp2_with fail
  go_loop [11] (fun i => ∃ k : Nat, k ≤ n ∧ i = .int .i64 (k : Int) ∧ ∀ j, j < k → 0 ≤ l.getD j 0 ∧ l.getD j 0 ≤ 9972) (fun i => n - (intOf i).toNat)
  case atStart => exact ⟨0, Nat.zero_le _, rfl, fun j hj => absurd hj (by omega)⟩
  case round =>
    obtain ⟨k, hk, rfl, hg⟩ := hrel
    have HG := Lib.hid hg
    clear hg
    by_cases hlt : k < n
    · obtain ⟨ad, rfl, _, hc⟩ := HL.out k (by have := HN.out; omega)
      obtain ⟨m, hm⟩ : ∃ m, m = l.getD k 0 := ⟨_, rfl⟩
      rw [← hm] at hc
      by_cases h0 : m < 0
      · have E := Lib.hid (BAD.out k hlt (by rw [← hm]; omega))
        clear hm
        go_wp2_with fail
        go_ret
        exact ⟨by rw [E.out]; rfl, rfl⟩
      · by_cases h1 : m ≤ 9972
        · have GG := Lib.hid (show ∀ j, j < k + 1 → 0 ≤ l.getD j 0 ∧ l.getD j 0 ≤ 9972 from fun j hj => by
            by_cases e : j = k
            · subst e; rw [← hm]; omega
            · exact HG.out j (by omega))
          clear hm
          go_wp2_with fail
          go_round
          case rel => exact ⟨k + 1, by omega, by go_num, GG.out⟩
          case measure => simp [intOf]; omega
        · have E := Lib.hid (BAD.out k hlt (by rw [← hm]; omega))
          clear hm
          go_wp2_with fail
          go_ret
          exact ⟨by rw [E.out]; rfl, rfl⟩
    · have E := Lib.hid (OK.out fun j hj => HG.out j (by omega))
      go_wp2_with fail
      go_ret
      exact ⟨by rw [E.out]; rfl, rfl⟩

theorem check_any (A : Option Addr) (l : List Int) (c : Nat) (w : World) (hl : Lies w A l) :
    Calls Try.prog 25 #[.slice A l.length c] w fun e w' => e = .returned (errOf (Pol.code l)) ∧ w = w' := by
  by_cases h : 12 < l.length
  · exact check_full A l c w h
  · exact check_few A l c w hl h

theorem pcheckBoth_any (A B : Option Addr) (l m : List Int) (c d : Nat) (w : World) (ha : Lies w A l) (hb : Lies w B m) :
    Calls Try.prog 20 #[.slice A l.length c, .slice B m.length d] w fun e w' => e = .returned (errOf (Pol.code2 l m)) ∧ w = w' := by
  have CA := Lib.hid (check_any A l c w ha)
  have CB := Lib.hid (check_any B m d w hb)
  unfold Pol.code2
  have hs := Pol.code_some l
  generalize Pol.code l = x at *
  generalize Pol.code m = y at *
  generalize l.length = n at *
  generalize m.length = q at *
  clear ha hb
  rcases hs with rfl | rfl | rfl
  · go_enter Try.func20, Try.ntmps20
    go_wp2_with fail
    refine (CA.out).mono ?_; rintro e w' ⟨rfl, rfl⟩
    rw [show errOf 0 = .nilIface from rfl]
    go_wp2_with fail
    refine (CB.out).mono ?_; rintro e w' ⟨rfl, rfl⟩
    go_wp2_with fail
    go_ret
    exact ⟨rfl, rfl⟩
  · go_enter Try.func20, Try.ntmps20
    go_wp2_with fail
    refine (CA.out).mono ?_; rintro e w' ⟨rfl, rfl⟩
    rw [show errOf 1 = .iface 47 (.int .i64 1) from rfl]
    go_wp2_with fail
    go_ret
    exact ⟨rfl, rfl⟩
  · go_enter Try.func20, Try.ntmps20
    go_wp2_with fail
    refine (CA.out).mono ?_; rintro e w' ⟨rfl, rfl⟩
    rw [show errOf 4 = .iface 47 (.int .i64 4) from rfl]
    go_wp2_with fail
    go_ret
    exact ⟨rfl, rfl⟩

/-- How long a slice is. -/
def sliceLen : Value → Nat
  | .slice _ n _ => n
  | _ => 0

theorem trim_step0 (p : List Fp.F) (k : Nat) (hk : k < p.length) (h : Pol.co p k = 0) : Pol.trim (p.take (k + 1)) = Pol.trim (p.take k) := by
  rw [Pol.take_succ p k hk, h, Pol.trim_zero]

theorem trimmed_any (A : Option Addr) (p : List Fp.F) (c : Nat) (w : World) (hl : Lies w A (Pol.vals p)) (hc : p.length ≤ c) (hn : p.length ≤ 1000000) :
    Calls Try.prog 21 #[.slice A p.length c] w fun e w' => e = .returned (.slice A (Pol.trim p).length c) ∧ w = w' := by
  have HL := Lib.hid hl
  obtain ⟨n, hn'⟩ : ∃ n, n = p.length := ⟨_, rfl⟩
  rw [← hn'] at hn hc ⊢
  have HN := Lib.hid hn'
  clear hl hn'
  go_enter Try.func21, Try.ntmps21
  go_wp2_with fail
  go_loop [0] (fun v => ∃ k : Nat, k ≤ n ∧ v = .slice A k c ∧ Pol.trim (p.take k) = Pol.trim p) (fun v => sliceLen v)
  case atStart => exact ⟨n, Nat.le_refl _, rfl, by rw [HN.out, List.take_length]⟩
  case round =>
    obtain ⟨k, hk, rfl, ht⟩ := hrel
    have HT := Lib.hid ht
    clear ht
    cases k with
    | zero =>
      have E := Lib.hid (show Pol.trim p = [] by rw [← HT.out]; rfl)
      go_wp2_with fail
      go_ret
      exact ⟨by rw [E.out]; rfl, rfl⟩
    | succ k =>
      obtain ⟨ad, rfl, _, hcell⟩ := HL.out k (by rw [Pol.len_vals, ← HN.out]; omega)
      rw [Pol.vals_at] at hcell
      by_cases h0 : Pol.co p k = 0
      · have e0 : (((Pol.co p k).val : Int) == 0) = true := by rw [h0]; rfl
        have ST := Lib.hid (trim_step0 p k (by have := HN.out; omega) h0)
        generalize ((Pol.co p k).val : Int) = m at *
        clear h0
        go_wp2_with fail
        go_round
        case rel => exact ⟨k, by omega, rfl, by rw [← ST.out]; exact HT.out⟩
        case measure => simp [sliceLen]
      · have e0 : (((Pol.co p k).val : Int) == 0) = false := by rw [beq_eq_false_iff_ne]; intro e; exact h0 (Fp.val_inj e)
        have E := Lib.hid (show Pol.trim p = p.take (k + 1) by rw [← HT.out, Pol.take_succ p k (by have := HN.out; omega), Pol.trim_not _ _ h0])
        have E2 := Lib.hid (show (p.take (k + 1)).length = k + 1 by rw [List.length_take]; have := HN.out; omega)
        generalize ((Pol.co p k).val : Int) = m at *
        clear h0
        go_wp2_with fail
        go_ret
        exact ⟨by rw [E.out, E2.out]; rfl, rfl⟩

end Go.Proofs.Ytnjhdedhobgplaa

/- Contracts of package poly, second part: Add and Mul. -/
namespace Go.Proofs.Ytnjhdedhobgplaa
open Go.ChangeShapes Go.WideShapes Go.ChangeAt Go.RowKit
set_option linter.unusedVariables false

/-- The answer is a row of factors, and no error. -/
def Gives (l : List Fp.F) (w : World) (e : Ending) (w' : World) : Prop :=
  ∃ A c, e = .returned (.tuple #[.slice A l.length c, .nilIface]) ∧ Lies w' A (Pol.vals l) ∧ l.length ≤ c ∧ Kp w w'
/-- The answer is an error, and nothing else. -/
def Fails (c : Nat) (w : World) (e : Ending) (w' : World) : Prop := e = .returned (.tuple #[.slice none 0 0, errOf c]) ∧ Kp w w'

theorem Row.trim {w : World} {g : Nat} {R : List Fp.F} (h : Row w g (Pol.vals R)) : Lies w (some ⟨g, 0, none⟩) (Pol.vals (Pol.trim R)) := by
  rw [Pol.trim_take, Pol.vals_take]; exact h.lies.take _

set_option maxRecDepth 100000 in
/-- copy(row, l): a row of noughts just made, and a slice that is no longer. -/
theorem copy_run (w1 : World) (g N n c : Nat) (A : Option Addr) (p : List Fp.F) (ty : TypeId) (hr : Row w1 g (Pol.vals (List.replicate N 0))) (hl : Lies w1 A (Pol.vals p)) (hn : n = p.length) (hN : n ≤ N) :
    ∃ w2, (Builtin.copy_ #[22, 22] ty #[.slice (some ⟨g, 0, none⟩) N N, .slice A n c]).run Try.prog w1 = .ok (goInt n) w2 ∧
      Row w2 g (Pol.vals (p ++ List.replicate (N - n) 0)) ∧ ∀ B w0, Below B w0 w1 → B ≤ g → Below B w0 w2 := by
  obtain ⟨i0, hi, hz0, hz1, hz2⟩ := info_parts int_info
  have hsz : (Try.prog.info? 3).map (·.size) = some 1 := by rw [hi]; simp [hz1]
  subst hn
  by_cases h0 : p.length = 0
  · obtain rfl : p = [] := List.eq_nil_of_length_eq_zero h0
    exact ⟨w1, run_copy_none w1 _ _ ty 3 _ A N N 0 c Try.underlying22 hsz (by simp), by simpa using hr, fun _ _ h _ => h⟩
  · obtain ⟨ad, rfl, _, _⟩ := hl 0 (by rw [Pol.len_vals]; omega)
    have hlen : (ints (Pol.vals p)).length = p.length := by rw [ints, List.length_map, Pol.len_vals]
    have hrun := run_copy_row (P := Try.prog) w1 22 22 ty 3 g 0 N N ad p.length c _ 3 (ints (Pol.vals p)) Try.underlying22 hsz hr (by rw [hlen]; exact (Nat.min_eq_left hN).symm)
      (fun j v hj => by
        have hj' : j < (Pol.vals p).length := by
          rcases Nat.lt_or_ge j (Pol.vals p).length with hlt | hge
          · exact hlt
          · rw [List.getElem?_eq_none (by simpa using hge)] at hj; cases hj
        obtain ⟨ad', e, _, hc⟩ := hl j hj'
        injection e with e
        subst e
        rw [hc, ← hj]
        simp [hj']) (by rw [hlen]; simp [Pol.len_vals]; omega) (fun v hv => by simp at hv; obtain ⟨y, _, rfl⟩ := hv; rfl)
    rw [hlen] at hrun
    refine ⟨_, hrun, ?_, fun B w0 hb hB => below_setRow hb hB _⟩
    unfold Row
    rw [setRow_heap w1 g _ _ 3 (0, 0) hr]
    congr 3
    rw [Pol.vals_append, ints, ints, ints, List.map_append]
    simp [Pol.vals]

theorem code2_ok (p q : List Fp.F) (hp : p.length ≤ 12) (hq : q.length ≤ 12) : Pol.code2 (Pol.vals p) (Pol.vals q) = 0 := by
  unfold Pol.code2
  rw [if_pos (Pol.code_vals p hp), Pol.code_vals q hq]
theorem checkBoth_ok (A B : Option Addr) (p q : List Fp.F) (c d : Nat) (w : World) (ha : Lies w A (Pol.vals p)) (hb : Lies w B (Pol.vals q)) (hp : p.length ≤ 12) (hq : q.length ≤ 12) :
    Calls Try.prog 20 #[.slice A p.length c, .slice B q.length d] w fun e w' => e = .returned .nilIface ∧ w = w' := by
  have h := pcheckBoth_any A B (Pol.vals p) (Pol.vals q) c d w ha hb
  rw [Pol.len_vals, Pol.len_vals, code2_ok p q hp hq] at h
  exact h
theorem code2_some (l m : List Int) (h : Pol.code2 l m ≠ 0) : Pol.code2 l m = 1 ∨ Pol.code2 l m = 4 := by
  unfold Pol.code2 at *
  have h1 := Pol.code_some l
  have h2 := Pol.code_some m
  split <;> simp_all

set_option maxRecDepth 100000 in
theorem mul_bad (A B : Option Addr) (l m : List Int) (c d : Nat) (w : World) (ha : Lies w A l) (hb : Lies w B m)
    (h : Pol.code2 l m ≠ 0) :
    Calls Try.prog 12 #[.slice A l.length c, .slice B m.length d] w fun e w' => Fails (Pol.code2 l m) w e w' := by
  have C := Lib.hid (pcheckBoth_any A B l m c d w ha hb)
  have hs := code2_some l m h
  clear h ha hb
  generalize Pol.code2 l m = x at *
  generalize l.length = n at *
  generalize m.length = q at *
  rcases hs with rfl | rfl
  · go_enter Try.func12, Try.ntmps12
    go_wp2_with fail
    refine (C.out).mono ?_; rintro e w' ⟨rfl, rfl⟩
    rw [show errOf 1 = .iface 47 (.int .i64 1) from rfl]
    go_wp2_with fail
    go_ret2
    exact ⟨rfl, Kp.rfl' _⟩
  · go_enter Try.func12, Try.ntmps12
    go_wp2_with fail
    refine (C.out).mono ?_; rintro e w' ⟨rfl, rfl⟩
    rw [show errOf 4 = .iface 47 (.int .i64 4) from rfl]
    go_wp2_with fail
    go_ret2
    exact ⟨rfl, Kp.rfl' _⟩

set_option maxRecDepth 100000 in
set_option maxHeartbeats 1600000 in
theorem mul_ok (A B : Option Addr) (p q : List Fp.F) (c d : Nat) (w : World) (ha : Lies w A (Pol.vals p)) (hb : Lies w B (Pol.vals q)) (hp : p.length ≤ 12) (hq : q.length ≤ 12) :
    Calls Try.prog 12 #[.slice A p.length c, .slice B q.length d] w fun e w' => Gives (Pol.mul p q) w e w' := by
  have C := Lib.hid (checkBoth_ok A B p q c d w ha hb hp hq)
  have HA := Lib.hid ha
  have HB := Lib.hid hb
  obtain ⟨n, hn⟩ : ∃ n, n = p.length := ⟨_, rfl⟩
  obtain ⟨m, hm⟩ : ∃ m, m = q.length := ⟨_, rfl⟩
  rw [← hn] at hp C ⊢
  rw [← hm] at hq C ⊢
  have HN := Lib.hid hn
  have HM := Lib.hid hm
  clear ha hb hn hm
  obtain ⟨i0, hi, hz0, hz1, hz2⟩ := info_parts int_info
  go_enter Try.func12, Try.ntmps12
  go_wp2_with fail
  refine (C.out).mono ?_; rintro e w' ⟨rfl, rfl⟩
  go_wp2_with (at_make; refine wpList_make_full _ rfl _ _ 22 rfl w.heap.size 3 i0 (.int .i64 0) 1 Try.underlying22 hi hz0 hz1 _ _ _ _ (n + m) rfl rfl (by simp) (by simp) (by rw [hz2]; omega) (by unfold maxLen; omega) (Nat.le_refl _) ?_; intro w1 hown hgrow)
  have hrow : Row w1 w.heap.size (Pol.vals (Pol.mulRows p q 0)) := by
    rw [Pol.mulRows, Pol.vals_zeros, ← HN.out, ← HM.out]; exact row_made hown
  have hkp : Kp w w1 := (Kp.rfl' w).grown hgrow (by simp) (fun k hk => by cases hk)
  clear hown hgrow hi hz0 hz1 hz2 C
  obtain ⟨g, hg⟩ : ∃ g, g = w.heap.size := ⟨_, rfl⟩
  rw [← hg] at hrow ⊢
  have HG := Lib.hid hg
  clear hg
  go_loopw [26] (fun i wr => ∃ k : Nat, k ≤ n ∧ i = .int .i64 (k : Int) ∧ Row wr g (Pol.vals (Pol.mulRows p q k)) ∧ Kp w wr) (fun i _ => n - (intOf i).toNat)
  case atStart => exact ⟨0, Nat.zero_le _, rfl, hrow, hkp⟩
  case round =>
    clear hrow hkp
    obtain ⟨k, hk, rfl, hr, hkp⟩ := hrel
    have HR := Lib.hid hr
    have HK := Lib.hid hkp
    clear hr hkp
    by_cases hlt : k < n
    · obtain ⟨ad, rfl, _, hc⟩ := (HA.out.keep HK.out) k (by rw [Pol.len_vals, ← HN.out]; exact hlt)
      rw [Pol.vals_at] at hc
      obtain ⟨a, ha⟩ : ∃ a, a = Pol.co p k := ⟨_, rfl⟩
      rw [← ha] at hc
      have HA1 := Lib.hid ha
      clear ha
      go_wp2_with fail
      go_loopw [33] (fun j wr' => ∃ t : Nat, t ≤ m ∧ j = .int .i64 (t : Int) ∧ Row wr' g (Pol.vals (Pol.addAt (Pol.mulRows p q k) a q k t)) ∧ Kp w wr') (fun j _ => m - (intOf j).toNat)
      case atStart => exact ⟨0, Nat.zero_le _, rfl, HR.out, HK.out⟩
      case round =>
        obtain ⟨t, ht, rfl, hr2, hkp2⟩ := hrel
        by_cases hlt2 : t < m
        · obtain ⟨bd, rfl, _, hd⟩ := (HB.out.keep hkp2) t (by rw [Pol.len_vals, ← HM.out]; exact hlt2)
          rw [Pol.vals_at] at hd
          obtain ⟨b, hb⟩ : ∃ b, b = Pol.co q t := ⟨_, rfl⟩
          rw [← hb] at hd
          have hlen : (Pol.vals (Pol.addAt (Pol.mulRows p q k) a q k t)).length = n + m := by rw [Pol.len_vals, Pol.len_addAt, Pol.len_mulRows, HN.out, HM.out]
          have hcell := hr2.cell (k + t) (by omega)
          have hfree := hr2.free (k + t)
          rw [Pol.vals_at] at hcell
          have HS := Lib.hid (show Pol.addAt (Pol.mulRows p q k) a q k (t + 1) = (Pol.addAt (Pol.mulRows p q k) a q k t).set (k + t) (Pol.co (Pol.addAt (Pol.mulRows p q k) a q k t) (k + t) + a * b) by rw [Pol.addAt, hb])
          have HR2 := Lib.hid hr2
          have HK2 := Lib.hid hkp2
          clear hr2 hkp2 hb hlen
          generalize Pol.co (Pol.addAt (Pol.mulRows p q k) a q k t) (k + t) = s at *
          have HV := Lib.hid (Pol.val_madd s a b)
          obtain ⟨p1, p2⟩ := prod_bound a b
          have s1 := Fp.val_bound s
          have a1 := Fp.val_bound a
          have b1 := Fp.val_bound b
          generalize (a.val : Int) = x at *
          generalize (b.val : Int) = y at *
          generalize (s.val : Int) = v at *
          go_wp2_with fail
          go_roundw
          case rel =>
            refine ⟨t + 1, by omega, by go_num, ?_, HK2.out.put (p := ⟨g, k + t, none⟩) (by show w.heap.size ≤ g; rw [HG.out]; exact Nat.le_refl _) _⟩
            rw [HS.out, Pol.vals_set, HV.out]
            exact HR2.out.put _ _
          case measure => simp [intOf]; omega
        · have HR3 := Lib.hid (show Row wr g (Pol.vals (Pol.mulRows p q (k + 1))) by
            rw [Pol.mulRows, ← HA1.out, ← HM.out, show m = t by omega]; exact hr2)
          have HK2 := Lib.hid hkp2
          clear hr2 hkp2
          go_wp2_with fail
          go_roundw
          case rel => exact ⟨k + 1, by omega, by go_num, HR3.out, HK2.out⟩
          case measure => simp [intOf]; omega
    · obtain rfl : k = n := by omega
      have e := Lib.hid (show Pol.trim (Pol.mulRows p q k) = Pol.mul p q by
        have h := Pol.rows_mul p q (by have := HN.out; omega) (by have := HM.out; omega)
        rw [← HN.out] at h; exact h)
      have T := Lib.hid (trimmed_any (some ⟨g, 0, none⟩) (Pol.mulRows p q k) (k + m) wr HR.out.lies (by rw [Pol.len_mulRows, HN.out, HM.out]; exact Nat.le_refl _) (by rw [Pol.len_mulRows, ← HN.out, ← HM.out]; omega))
      rw [Pol.len_mulRows, ← HN.out, ← HM.out] at T
      go_wp2_with fail
      refine (T.out).mono ?_; rintro e w' ⟨rfl, rfl⟩
      go_wp2_with fail
      go_ret2
      exact ⟨some ⟨g, 0, none⟩, k + m, by rw [← e.out]; rfl, by rw [← e.out]; exact HR.out.trim, by rw [← e.out]; have := Pol.len_trim (Pol.mulRows p q k); rw [Pol.len_mulRows, ← HN.out, ← HM.out] at this; exact this, HK.out⟩

/-- The contracts, with the lengths as numbers. -/
theorem mul_ok' (A B : Option Addr) (p q : List Fp.F) (n m c d : Nat) (w : World) (ha : Lies w A (Pol.vals p)) (hb : Lies w B (Pol.vals q)) (hn : n = p.length) (hm : m = q.length) (hp : n ≤ 12) (hq : m ≤ 12) :
    Calls Try.prog 12 #[.slice A n c, .slice B m d] w fun e w' => Gives (Pol.mul p q) w e w' := by subst hn hm; exact mul_ok A B p q c d w ha hb hp hq
end Go.Proofs.Ytnjhdedhobgplaa

/- Contracts of package poly, third part: divide. -/
namespace Go.Proofs.Ytnjhdedhobgplaa
open Go.ChangeShapes Go.WideShapes Go.ChangeAt Go.RowKit
set_option linter.unusedVariables false

/-- The answer is two rows of factors, and no error. -/
def GivesTwo (q r : List Fp.F) (w : World) (e : Ending) (w' : World) : Prop :=
  ∃ A c B d, e = .returned (.tuple #[.slice A q.length c, .slice B r.length d, .nilIface]) ∧ Lies w' A (Pol.vals q) ∧ q.length ≤ c ∧ Lies w' B (Pol.vals r) ∧ r.length ≤ d ∧ Kp w w'

theorem msub_bound (t c : Fp.F) : 0 ≤ (9973 - (t.val : Int)) * (c.val : Int) ∧ (9973 - (t.val : Int)) * (c.val : Int) ≤ 99450756 := by
  have h1 := Fp.val_bound t
  have h2 := Fp.val_bound c
  have := Int.mul_le_mul (show 9973 - (t.val : Int) ≤ 9973 by omega) h2.2 h2.1 (by omega)
  exact ⟨Int.mul_nonneg (by omega) h2.1, by omega⟩

/-- What dividing keeps: so many places of the quotient are still to come. -/
structure Left (p g R Q : List Fp.F) (j : Nat) : Prop where
  lr : R.length = p.length
  lq : Q.length = p.length - (g.length - 1)
  eq : ∀ x, Pol.ev p x = Pol.ev g x * Pol.ev Q x + Pol.ev R x
  zr : ∀ k, j + (g.length - 1) ≤ k → Pol.co R k = 0
  zq : ∀ k, k < j → Pol.co Q k = 0

theorem co_zeros (n k : Nat) : Pol.co (List.replicate n 0) k = 0 := by
  unfold Pol.co
  rw [List.getD_eq_getElem?_getD, List.getElem?_replicate]
  split <;> rfl

theorem left_start (p g : List Fp.F) : Left p g p (List.replicate (p.length - (g.length - 1)) 0) (p.length - (g.length - 1)) :=
  ⟨rfl, List.length_replicate .., fun x => by rw [Pol.ev_zeros]; grind, fun k hk => Pol.co_out _ _ (by omega), fun k _ => co_zeros _ k⟩

theorem left_step (p g R Q : List Fp.F) (j : Nat) (hg : Pol.Tr g) (g0 : g ≠ []) (hj : j + 1 ≤ p.length - (g.length - 1)) (h : Left p g R Q (j + 1)) (t : Fp.F) (ht : t = Pol.co R (j + (g.length - 1)) * Fp.inv (Pol.top g)) :
    Left p g (Pol.addAt R (-t) g j g.length) (Q.set j t) j := by
  have l := List.length_pos_iff.2 g0
  have lr := h.lr
  have lq := h.lq
  have tg := Pol.top_ne hg g0
  refine ⟨by rw [Pol.len_addAt, lr], by rw [List.length_set, lq], fun x => ?_, fun k hk => ?_, fun k hk => ?_⟩
  · rw [Pol.ev_set _ _ _ _ (by omega), Pol.ev_addAt _ _ _ _ _ (by omega), List.take_length, h.zq j (by omega), h.eq]; grind
  · by_cases e : k = j + (g.length - 1)
    · have e1 := Pol.co_addAt_top R (-t) g j (g.length - 1) (by omega)
      rw [Nat.sub_add_cancel (by omega)] at e1
      rw [e, e1, ht]
      exact Pol.cancel _ _ _ (Fp.inv_mul tg)
    · rw [Pol.co_addAt_far _ _ _ _ _ _ (by omega) (by omega)]
      exact h.zr k (by omega)
  · rw [Pol.co_set _ _ _ _ (by omega), if_neg (by omega)]
    exact h.zq k (by omega)

theorem left_end (p g R Q : List Fp.F) (hp : Pol.Tr p) (hg : Pol.Tr g) (g0 : g ≠ []) (lp : p.length ≤ 1000) (lg : g.length ≤ 1000) (h : Left p g R Q 0) : Pol.Dv p g Q (Pol.trim R) := by
  have l := List.length_pos_iff.2 g0
  refine Pol.Dv.full hp hg lp lg g0 h.lq ?_ h.eq
  have := Pol.trim_short R (g.length - 1) fun k hk => h.zr k (by omega)
  omega

theorem divide_el (b : Fp.F) (w : World) (hb : b ≠ 0) :
    Calls Try.prog 38 #[.int .i64 1, el b] w fun e w' => e = .returned (.tuple #[el (Fp.inv b), .nilIface]) ∧ Drew w w' := by
  have h := div_el 1 b w hb
  rw [Fin.one_mul] at h
  exact h

set_option maxRecDepth 100000 in
set_option maxHeartbeats 3200000 in
theorem divide_any (A B : Option Addr) (p g : List Fp.F) (c d : Nat) (w : World) (ha : Lies w A (Pol.vals p)) (hb : Lies w B (Pol.vals g)) (hp : Pol.Tr p) (hg : Pol.Tr g) (g0 : g ≠ []) (lp : p.length ≤ 100) (lg : g.length ≤ 100) :
    Calls Try.prog 22 #[.slice A p.length c, .slice B g.length d] w fun e w' => ∃ q r, Pol.Dv p g q r ∧ GivesTwo q r w e w' := by
  have HA := Lib.hid ha
  have HB := Lib.hid hb
  have HT := Lib.hid (Pol.top_ne hg g0)
  have HS := Lib.hid (fun R Q j => left_step p g R Q j hg g0)
  have HE := Lib.hid (fun R Q => left_end p g R Q hp hg g0 (by omega) (by omega))
  obtain ⟨l, hm⟩ : ∃ l, g.length = l + 1 := ⟨g.length - 1, by have := List.length_pos_iff.2 g0; omega⟩
  obtain ⟨n, hn⟩ : ∃ n, n = p.length := ⟨_, rfl⟩
  rw [← hn] at lp ⊢
  rw [hm] at lg ⊢
  have HN := Lib.hid hn
  have HM := Lib.hid hm
  clear ha hb hn hm hp hg g0
  obtain ⟨bd, rfl, _, hcell⟩ := HB.out l (by rw [Pol.len_vals, HM.out]; omega)
  rw [Pol.vals_at] at hcell
  obtain ⟨b, hb⟩ : ∃ b, b = Pol.top g := ⟨_, rfl⟩
  rw [← hb] at HT
  rw [show Pol.co g l = b by rw [hb, Pol.top, HM.out]; rfl] at hcell
  have HTOP := Lib.hid hb
  clear hb
  obtain ⟨i0, hi, hz0, hz1, hz2⟩ := info_parts int_info
  go_enter Try.func22, Try.ntmps22
  go_wp2_with fail
  refine (divide_el b _ HT.out).mono ?_; rintro e wd ⟨rfl, hd⟩
  have HD := Lib.hid hd
  clear hd hcell
  obtain ⟨iv, hiv⟩ : ∃ iv, iv = Fp.inv b := ⟨_, rfl⟩
  rw [← hiv]
  have HIV := Lib.hid hiv
  clear hiv
  go_wp2_with (at_make; refine wpList_make_full _ rfl _ _ 22 rfl wd.heap.size 3 i0 (.int .i64 0) 1 Try.underlying22 hi hz0 hz1 _ _ _ _ n rfl rfl rfl rfl (by rw [hz2]; omega) (by unfold maxLen; omega) (Nat.le_refl _) ?_; intro w1 hown hgrow; have hrow : Row w1 wd.heap.size (Pol.vals (List.replicate n 0)) := (by rw [Pol.vals_zeros]; exact row_made hown); have hkp : Kp w w1 := HD.out.kp.grown hgrow HD.out.kp.size (fun k hk => by cases hk); clear hown hgrow)
  obtain ⟨w2, hrun, hr2, hk2⟩ := copy_run w1 wd.heap.size n n c A p 3 hrow (HA.out.keep hkp) HN.out (Nat.le_refl n)
  rw [hrun]
  clear hrun
  rw [Nat.sub_self, List.replicate_zero, List.append_nil] at hr2
  obtain ⟨gr, hgr⟩ : ∃ gr, gr = wd.heap.size := ⟨_, rfl⟩
  rw [← hgr] at hr2 hk2 ⊢
  have hgw : w.heap.size ≤ gr := by rw [hgr]; exact HD.out.kp.size
  have HKP2 := Lib.hid (show Kp w w2 from hk2 _ _ hkp hgw)
  have HR2 := Lib.hid hr2
  have HGW := Lib.hid hgw
  clear hrow hkp hk2 hgr HD hr2 hgw
  obtain ⟨K, hK⟩ : ∃ K, K = n - l := ⟨_, rfl⟩
  have hKb : K ≤ 100 := by omega
  have HK0 := Lib.hid hK
  clear hK
  go_wp2_with (at_make; refine wpList_make_full _ rfl _ _ 22 rfl w2.heap.size 3 i0 (.int .i64 0) 1 Try.underlying22 hi hz0 hz1 _ _ _ _ K rfl rfl (by have := HK0.out; omega) (by have := HK0.out; omega) (by rw [hz2]; have := HK0.out; omega) (by unfold maxLen; have := HK0.out; omega) (Nat.le_refl _) ?_; intro w3 hown hgrow; have hrow : Row w3 w2.heap.size (Pol.vals (List.replicate K 0)) := (by rw [Pol.vals_zeros]; exact row_made hown); have hkp : Kp w w3 := HKP2.out.grown hgrow HKP2.out.size (fun k hk => by cases hk); have hr3 : Row w3 gr (Pol.vals p) := (HR2.out.keep ((Kp.rfl' w2).grown hgrow (Nat.le_refl _) (fun k hk => by cases hk))); clear hown hgrow)
  all_goals
    have hK1 : K ≤ n := by have := HK0.out; omega
    obtain ⟨gq, hgq⟩ : ∃ gq, gq = w2.heap.size := ⟨_, rfl⟩
    rw [← hgq] at hrow ⊢
    have hgg : gr ≠ gq := by have := HR2.out.lt; omega
    have HGQ := Lib.hid (show w.heap.size ≤ gq by have := HKP2.out.size; omega)
    have HGG := Lib.hid hgg
    clear hgq hgg HKP2 HR2 hi hz0 hz1 hz2
    go_loopw [9] (fun i wr => ∃ (j : Nat) (R Q : List Fp.F), j ≤ K ∧ i = .int .i64 ((j : Int) - 1) ∧ Row wr gr (Pol.vals R) ∧ Row wr gq (Pol.vals Q) ∧ Left p g R Q j ∧ Kp w wr) (fun i _ => (intOf i + 1).toNat)
    case atStart => exact ⟨K, p, List.replicate K 0, Nat.le_refl _, rfl, hr3, hrow, by have := left_start p g; rw [HM.out, ← HN.out, Nat.add_sub_cancel, ← HK0.out] at this; exact this, hkp⟩
    case round =>
      clear hr3 hrow hkp
      obtain ⟨j, R, Q, hj, rfl, hr, hq, hl, hkp⟩ := hrel
      have HR := Lib.hid hr
      have HQ := Lib.hid hq
      have HL := Lib.hid hl
      have HK := Lib.hid hkp
      clear hr hq hl hkp
      have hlr := Lib.hid (show R.length = n by rw [HL.out.lr, HN.out])
      have hlq := Lib.hid (show Q.length = K by rw [HL.out.lq, ← HN.out, HM.out, Nat.add_sub_cancel, HK0.out])
      cases j with
      | zero =>
        have ei : ((0 : Nat) : Int) - 1 = -1 := by decide
        rw [ei]
        have HDV := Lib.hid (HE.out R Q HL.out)
        have T := Lib.hid (trimmed_any (some ⟨gr, 0, none⟩) R n)
        rw [hlr.out] at T
        go_wp2_with fail
        refine (T.out _ HR.out.lies (Nat.le_refl n) (by omega)).mono ?_; rintro e w' ⟨rfl, rfl⟩
        go_wp2_with fail
        refine bodyPost_ret (v := .tuple #[.slice (some ⟨gq, 0, none⟩) K K, .slice (some ⟨gr, 0, none⟩) (Pol.trim R).length n, .nilIface]) (by simp [results, Try.results22, go_sem]) rfl ⟨Q, Pol.trim R, HDV.out, some ⟨gq, 0, none⟩, K, some ⟨gr, 0, none⟩, n, by rw [hlq.out], HQ.out.lies, by rw [hlq.out]; exact Nat.le_refl _, HR.out.trim, by have := Pol.len_trim R; rw [hlr.out] at this; exact this, HK.out⟩
      | succ j =>
        have ei : ((j + 1 : Nat) : Int) - 1 = (j : Int) := by omega
        rw [ei]
        have hjn : j + l < n := by have := HK0.out; omega
        have hcell := HR.out.cell (j + l) (by rw [Pol.len_vals, hlr.out]; exact hjn)
        rw [Pol.vals_at] at hcell
        obtain ⟨s, hs⟩ : ∃ s, s = Pol.co R (j + l) := ⟨_, rfl⟩
        rw [← hs] at hcell
        have hfree := HQ.out.free j
        have hlenq : (Pol.vals Q).length = K := by rw [Pol.len_vals, hlq.out]
        have hqcell := HQ.out.cell j (by rw [Pol.len_vals, hlq.out]; omega)
        have HV := Lib.hid (Fp.mul_val s iv)
        obtain ⟨t, ht⟩ : ∃ t, t = s * iv := ⟨_, rfl⟩
        rw [← ht] at HV
        have HSTEP := Lib.hid (HS.out R Q j (by rw [← HN.out, HM.out, Nat.add_sub_cancel, ← HK0.out]; exact hj) HL.out t (by rw [ht, HM.out, Nat.add_sub_cancel, ← hs, HIV.out, HTOP.out]))
        clear hlenq
        obtain ⟨p1, p2⟩ := prod_bound s iv
        have s1 := Fp.val_bound s
        have v1 := Fp.val_bound iv
        clear hs ht
        generalize (s.val : Int) = x at *
        try (exfalso; omega)
        all_goals
          go_wp2_with fail
          rw [← HV.out]
          have hrow1 : Row (wr.setCell ⟨gq, j, none⟩ (el t)) gr (Pol.vals R) := HR.out.far HGG.out _
          have hrow2 : Row (wr.setCell ⟨gq, j, none⟩ (el t)) gq (Pol.vals (Q.set j t)) := by rw [Pol.vals_set]; exact HQ.out.put j _
          have hkp1 : Kp w (wr.setCell ⟨gq, j, none⟩ (el t)) := HK.out.put (p := ⟨gq, j, none⟩) HGQ.out _
          clear p1 p2 s1 v1 hcell hfree hqcell HV
          go_loopw [61] (fun jj wr' => ∃ m : Nat, m ≤ l + 1 ∧ jj = .int .i64 (m : Int) ∧ Row wr' gr (Pol.vals (Pol.addAt R (-t) g j m)) ∧ Row wr' gq (Pol.vals (Q.set j t)) ∧ Kp w wr') (fun jj _ => l + 1 - (intOf jj).toNat)
          case atStart => exact ⟨0, Nat.zero_le _, rfl, hrow1, hrow2, hkp1⟩
          case round =>
            clear hrow1 hrow2 hkp1
            obtain ⟨m, hm, rfl, hr2, hq2, hkp2⟩ := hrel
            have HR2 := Lib.hid hr2
            have HQ2 := Lib.hid hq2
            have HKP2 := Lib.hid hkp2
            clear hr2 hq2 hkp2
            by_cases hlt : m < l + 1
            · obtain ⟨ad, e, _, hd⟩ := (HB.out.keep HKP2.out) m (by rw [Pol.len_vals, HM.out]; exact hlt)
              injection e with e
              subst e
              rw [Pol.vals_at] at hd
              obtain ⟨y, hy⟩ : ∃ y, y = Pol.co g m := ⟨_, rfl⟩
              rw [← hy] at hd
              have hlen : (Pol.vals (Pol.addAt R (-t) g j m)).length = n := by rw [Pol.len_vals, Pol.len_addAt, hlr.out]
              have hcell := HR2.out.cell (j + m) (by omega)
              have hfree := HR2.out.free (j + m)
              rw [Pol.vals_at] at hcell
              have HSS := Lib.hid (show Pol.addAt R (-t) g j (m + 1) = (Pol.addAt R (-t) g j m).set (j + m) (Pol.co (Pol.addAt R (-t) g j m) (j + m) + -t * y) by rw [Pol.addAt, hy])
              clear hy hlen
              generalize Pol.co (Pol.addAt R (-t) g j m) (j + m) = s at *
              have HV := Lib.hid (Pol.val_msub s t y)
              obtain ⟨p1, p2⟩ := msub_bound t y
              have s1 := Fp.val_bound s
              have y1 := Fp.val_bound y
              have t1 := Fp.val_bound t
              generalize (t.val : Int) = tv at *
              generalize (y.val : Int) = yv at *
              generalize (s.val : Int) = sv at *
              go_wp2_with fail
              go_roundw
              case rel =>
                refine ⟨m + 1, by omega, by go_num, ?_, HQ2.out.far (fun e => HGG.out e.symm) _, HKP2.out.put (p := ⟨gr, j + m, none⟩) HGW.out _⟩
                rw [HSS.out, Pol.vals_set, HV.out]
                exact HR2.out.put _ _
              case measure => simp [intOf]; omega
            · have HR3 := Lib.hid (show Row wr gr (Pol.vals (Pol.addAt R (-t) g j g.length)) by rw [HM.out, show l + 1 = m by omega]; exact HR2.out)
              go_wp2_with fail
              go_roundw
              case rel => exact ⟨j, _, _, by omega, by go_num, HR3.out, HQ2.out, HSTEP.out, HKP2.out⟩
              case measure => simp [intOf]

end Go.Proofs.Ytnjhdedhobgplaa

/- Contracts of package poly, fourth part: monic, Div, Gcd, At. -/
namespace Go.Proofs.Ytnjhdedhobgplaa
open Go.ChangeShapes Go.WideShapes Go.ChangeAt Go.RowKit
set_option linter.unusedVariables false

theorem Lies.trim {w : World} {A : Option Addr} {p : List Fp.F} (h : Lies w A (Pol.vals p)) : Lies w A (Pol.vals (Pol.trim p)) := by
  rw [Pol.trim_take, Pol.vals_take]; exact h.take _

/-- The last one alone. -/
theorem lies_last {w : World} {ad : Addr} {p : List Fp.F} {k : Nat} (hk : p.length = k + 1) (h : Lies w (some ad) (Pol.vals p)) : Lies w (some (ad.add k)) (Pol.vals [Pol.top p]) := fun j hj => by
  have hj0 : j = 0 := by simp [Pol.vals] at hj; exact hj
  subst hj0
  obtain ⟨ad', e, h1, h2⟩ := h k (by rw [Pol.len_vals]; omega)
  injection e with e
  subst e
  refine ⟨_, rfl, by rw [block_add]; exact h1, ?_⟩
  rw [add_add, Nat.add_zero, h2, Pol.vals_at, Pol.vals_at, Pol.co_zero, Pol.top, hk]
  rfl

set_option maxRecDepth 100000 in
set_option maxHeartbeats 800000 in
theorem monic_any (A : Option Addr) (p : List Fp.F) (c : Nat) (w : World) (ha : Lies w A (Pol.vals p)) (hp : Pol.Tr p) (lp : p.length ≤ 100) (hc : p.length ≤ c) :
    Calls Try.prog 23 #[.slice A p.length c] w fun e w' => Gives (Pol.mon p) w e w' := by
  by_cases h0 : p = []
  · subst h0
    rw [List.length_nil] at *
    go_enter Try.func23, Try.ntmps23
    go_wp2_with fail
    go_ret2
    exact ⟨none, 0, rfl, Lies.empty _ _, Nat.le_refl _, Kp.rfl' _⟩
  · have HD := Lib.hid (fun q r (d : Pol.Dv p [Pol.top p] q r) => Pol.mon_dv hp h0 (by omega) d)
    obtain ⟨k, hk⟩ : ∃ k, p.length = k + 1 := ⟨p.length - 1, by have := List.length_pos_iff.2 h0; omega⟩
    obtain ⟨ad, rfl, _⟩ := ha k (by rw [Pol.len_vals]; omega)
    have DV := Lib.hid (divide_any (some ad) (some (ad.add k)) p [Pol.top p] c (c - k) w ha (lies_last hk ha) hp (fun _ => (show Pol.co [Pol.top p] 0 ≠ 0 from by rw [Pol.co_zero]; exact Pol.top_ne hp h0)) (by simp) lp (by simp))
    rw [hk] at lp hc DV ⊢
    rw [List.length_singleton] at DV
    have c1 : c - k ≠ 0 := by omega
    have c2 : (k : Int) ≤ (c : Int) := by omega
    clear ha hp h0 hk
    go_enter Try.func23, Try.ntmps23
    go_wp2_with fail
    refine (DV.out).mono ?_; rintro e w' ⟨q, r, dv, A', c', B', d', rfl, l1, l2, l3, l4, hkp⟩
    obtain rfl := HD.out q r dv
    have L1 := Lib.hid l1
    have HK := Lib.hid hkp
    clear dv l1 l3 l4 hkp DV
    go_wp2_with fail
    go_ret2
    exact ⟨A', c', rfl, L1.out, l2, HK.out⟩

/-- The answer is an error, and no rows. -/
def Fails2 (c : Nat) (w : World) (e : Ending) (w' : World) : Prop := e = .returned (.tuple #[.slice none 0 0, .slice none 0 0, errOf c]) ∧ Kp w w'

set_option maxRecDepth 100000 in
theorem gcd_bad (A B : Option Addr) (l m : List Int) (c d : Nat) (w : World) (ha : Lies w A l) (hb : Lies w B m)
    (h : Pol.code2 l m ≠ 0) :
    Calls Try.prog 10 #[.slice A l.length c, .slice B m.length d] w fun e w' => Fails (Pol.code2 l m) w e w' := by
  have C := Lib.hid (pcheckBoth_any A B l m c d w ha hb)
  have hs := code2_some l m h
  clear h ha hb
  generalize Pol.code2 l m = x at *
  generalize l.length = n at *
  generalize m.length = q at *
  rcases hs with rfl | rfl
  · go_enter Try.func10, Try.ntmps10
    go_wp2_with fail
    refine (C.out).mono ?_; rintro e w' ⟨rfl, rfl⟩
    rw [show errOf 1 = .iface 47 (.int .i64 1) from rfl]
    go_wp2_with fail
    go_ret2
    exact ⟨rfl, Kp.rfl' _⟩
  · go_enter Try.func10, Try.ntmps10
    go_wp2_with fail
    refine (C.out).mono ?_; rintro e w' ⟨rfl, rfl⟩
    rw [show errOf 4 = .iface 47 (.int .i64 4) from rfl]
    go_wp2_with fail
    go_ret2
    exact ⟨rfl, Kp.rfl' _⟩

/-- What Euclid's rounds keep. -/
def GcdRel (p q : List Fp.F) (w : World) (u v : Value) (wr : World) : Prop :=
  ∃ A c B d f g, u = .slice A f.length c ∧ v = .slice B g.length d ∧ Lies wr A (Pol.vals f) ∧ Lies wr B (Pol.vals g) ∧ f.length ≤ c ∧ g.length ≤ d ∧ Pol.Tr f ∧ Pol.Tr g ∧ f.length ≤ 12 ∧ g.length ≤ 12 ∧
    (∀ z, Pol.Gc f g z → Pol.Gc p q z) ∧ Kp w wr

set_option maxRecDepth 100000 in
set_option maxHeartbeats 1600000 in
theorem gcd_ok (A B : Option Addr) (p q : List Fp.F) (c d : Nat) (w : World) (ha : Lies w A (Pol.vals p)) (hb : Lies w B (Pol.vals q)) (hp : p.length ≤ 12) (hq : q.length ≤ 12) (hc : p.length ≤ c) (hd : q.length ≤ d) :
    Calls Try.prog 10 #[.slice A p.length c, .slice B q.length d] w fun e w' => ∃ z, Pol.Gc (Pol.trim p) (Pol.trim q) z ∧ Gives (Pol.mon z) w e w' := by
  have C := Lib.hid (checkBoth_ok A B p q c d w ha hb hp hq)
  have TB := Lib.hid (trimmed_any B q d w hb hd (by omega))
  have TA := Lib.hid (trimmed_any A p c w ha hc (by omega))
  have START := Lib.hid (show GcdRel (Pol.trim p) (Pol.trim q) w (.slice A (Pol.trim p).length c) (.slice B (Pol.trim q).length d) w from
    ⟨A, c, B, d, Pol.trim p, Pol.trim q, rfl, rfl, ha.trim, hb.trim, Nat.le_trans (Pol.len_trim p) hc, Nat.le_trans (Pol.len_trim q) hd, Pol.tr_trim p, Pol.tr_trim q, Nat.le_trans (Pol.len_trim p) hp, Nat.le_trans (Pol.len_trim q) hq, fun _ h => h, Kp.rfl' w⟩)
  clear ha hb
  generalize (Pol.trim p) = P at *
  generalize (Pol.trim q) = Q at *
  generalize p.length = n at *
  generalize q.length = m at *
  go_enter Try.func10, Try.ntmps10
  go_wp2_with fail
  refine (C.out).mono ?_; rintro e w' ⟨rfl, rfl⟩
  go_wp2_with fail
  refine (TA.out).mono ?_; rintro e w' ⟨rfl, rfl⟩
  go_wp2_with fail
  refine (TB.out).mono ?_; rintro e w' ⟨rfl, rfl⟩
  go_wp2_with fail
  go_loopw [0, 1] (fun u v wr => GcdRel P Q w u v wr) (fun _ v _ => sliceLen v)
  case atStart => exact START.out
  case round =>
    clear START TA TB C
    obtain ⟨A1, c1, B1, d1, f, g, rfl, rfl, la, lb, hf, hg, tf, tg, lf, lg, hz, hkp⟩ := hrel
    have HZ := Lib.hid hz
    have HK := Lib.hid hkp
    by_cases g0 : g = []
    · subst g0
      have M := Lib.hid (monic_any A1 f c1 wr la tf (by omega) hf)
      clear hz hkp la lb tf tg
      rw [List.length_nil] at *
      obtain ⟨n1, hn1⟩ : ∃ n1, n1 = f.length := ⟨_, rfl⟩
      rw [← hn1] at hf lf M ⊢
      clear hn1
      go_wp2_with fail
      refine (M.out).mono ?_; rintro e w' ⟨A2, c2, rfl, l1, l2, hkp2⟩
      have L1 := Lib.hid l1
      have HK2 := Lib.hid hkp2
      clear l1 hkp2 M
      go_wp2_with fail
      go_ret2
      exact ⟨f, HZ.out f (.done f), A2, c2, rfl, L1.out, l2, HK.out.trans HK2.out⟩
    · have D := Lib.hid (divide_any A1 B1 f g c1 d1 wr la lb tf tg g0 (by omega) (by omega))
      have LB := Lib.hid lb
      have TG := Lib.hid tg
      obtain ⟨k, hk⟩ : ∃ k, g.length = k + 1 := ⟨g.length - 1, by have := List.length_pos_iff.2 g0; omega⟩
      have HGL := Lib.hid hk
      rw [hk] at hg lg D ⊢
      clear hz hkp la lb tf tg g0 hk
      generalize hn1 : f.length = n1 at *
      clear hn1
      go_wp2_with fail
      refine (D.out).mono ?_; rintro e w' ⟨u, r, dv, A2, c2, B2, d2, rfl, l1, l2, l3, l4, hkp2⟩
      have REL := Lib.hid (show GcdRel P Q w (.slice B1 (k + 1) d1) (.slice B2 r.length d2) w' from
        ⟨B1, d1, B2, d2, g, r, by rw [HGL.out], rfl, LB.out.keep hkp2, l3, by rw [HGL.out]; exact hg, l4, TG.out, dv.tr, by rw [HGL.out]; exact lg, by have := dv.lt; have := HGL.out; omega, fun z h => HZ.out z (.step dv h), HK.out.trans hkp2⟩)
      have hlt : r.length < k + 1 := by have := dv.lt; have := HGL.out; omega
      clear dv l1 l2 l3 l4 hkp2 D
      generalize r.length = rn at *
      go_wp2_with fail
      go_roundw
      case rel => exact REL.out
      case measure => simp [sliceLen]; omega

/-- What is wrong with a row and a place. -/
def atCode (l : List Int) (x : Int) : Nat := if Pol.code l = 0 then (if 0 ≤ x ∧ x ≤ 9972 then 0 else 1) else Pol.code l

set_option maxRecDepth 100000 in
theorem at_bad (A : Option Addr) (l : List Int) (c : Nat) (x : Int) (w : World) (ha : Lies w A l) (h : atCode l x ≠ 0) :
    Calls Try.prog 14 #[.slice A l.length c, .int .i64 x] w fun e w' => e = .returned (.tuple #[.int .i64 0, errOf (atCode l x)]) ∧ w = w' := by
  have C := Lib.hid (check_any A l c w ha)
  have hs := Pol.code_some l
  unfold atCode at *
  clear ha
  generalize Pol.code l = y at *
  generalize l.length = n at *
  rcases hs with rfl | rfl | rfl
  · by_cases hx : 0 ≤ x ∧ x ≤ 9972
    · rw [if_pos rfl, if_pos hx] at h; exact absurd rfl h
    · rw [if_pos rfl, if_neg hx]
      clear h
      by_cases h0 : x < 0
      · clear hx
        go_enter Try.func14, Try.ntmps14
        go_wp2_with fail
        refine (C.out).mono ?_; rintro e w' ⟨rfl, rfl⟩
        rw [show errOf 0 = .nilIface from rfl]
        go_wp2_with fail
        go_ret2
        exact ⟨rfl, rfl⟩
      · have h1 : 9973 ≤ x := by omega
        clear hx
        go_enter Try.func14, Try.ntmps14
        go_wp2_with fail
        refine (C.out).mono ?_; rintro e w' ⟨rfl, rfl⟩
        rw [show errOf 0 = .nilIface from rfl]
        go_wp2_with fail
        go_ret2
        exact ⟨rfl, rfl⟩
  · rw [if_neg (by decide)]
    go_enter Try.func14, Try.ntmps14
    go_wp2_with fail
    refine (C.out).mono ?_; rintro e w' ⟨rfl, rfl⟩
    rw [show errOf 1 = .iface 47 (.int .i64 1) from rfl]
    go_wp2_with fail
    go_ret2
    exact ⟨rfl, rfl⟩
  · rw [if_neg (by decide)]
    go_enter Try.func14, Try.ntmps14
    go_wp2_with fail
    refine (C.out).mono ?_; rintro e w' ⟨rfl, rfl⟩
    rw [show errOf 4 = .iface 47 (.int .i64 4) from rfl]
    go_wp2_with fail
    go_ret2
    exact ⟨rfl, rfl⟩

set_option maxRecDepth 100000 in
theorem at_ok (A : Option Addr) (p : List Fp.F) (c : Nat) (x : Fp.F) (w : World) (ha : Lies w A (Pol.vals p)) (hp : p.length ≤ 100) (hc : Pol.code (Pol.vals p) = 0) :
    Calls Try.prog 14 #[.slice A p.length c, el x] w fun e w' => e = .returned (.tuple #[el (Pol.ev p x), .nilIface]) ∧ w = w' := by
  have C := Lib.hid (check_any A (Pol.vals p) c w ha)
  rw [Pol.len_vals, hc, show errOf 0 = .nilIface from rfl] at C
  have HA := Lib.hid ha
  obtain ⟨n, hn⟩ : ∃ n, n = p.length := ⟨_, rfl⟩
  rw [← hn] at hp C ⊢
  have HN := Lib.hid hn
  have x1 := Fp.val_bound x
  have ST := Lib.hid (fun (v a : Fp.F) => Pol.val_horner v x a)
  have PB := Lib.hid (fun (v : Fp.F) => prod_bound v x)
  have hxv : el x = .int .i64 (x.val : Int) := rfl
  clear ha hn hc
  rw [hxv]
  generalize (x.val : Int) = xv at *
  clear hxv
  go_enter Try.func14, Try.ntmps14
  go_wp2_with fail
  refine (C.out).mono ?_; rintro e w' ⟨rfl, rfl⟩
  go_wp2_with fail
  go_loop [7, 8] (fun v i => ∃ j : Nat, j ≤ n ∧ i = .int .i64 ((j : Int) - 1) ∧ v = el (Pol.ev (p.drop j) x)) (fun _ i => (intOf i + 1).toNat)
  case atStart => exact ⟨n, Nat.le_refl _, by go_num, by rw [HN.out, List.drop_length]; rfl⟩
  case round =>
    obtain ⟨j, hj, rfl, rfl⟩ := hrel
    cases j with
    | zero =>
      have ei : ((0 : Nat) : Int) - 1 = -1 := by decide
      rw [ei, List.drop_zero]
      go_wp2_with fail
      go_ret2
      exact ⟨rfl, rfl⟩
    | succ j =>
      have ei : ((j + 1 : Nat) : Int) - 1 = (j : Int) := by omega
      rw [ei]
      obtain ⟨ad, rfl, _, hcell⟩ := HA.out j (by rw [Pol.len_vals, ← HN.out]; omega)
      rw [Pol.vals_at] at hcell
      have E := Lib.hid (Pol.ev_drop p j (by have := HN.out; omega) x)
      obtain ⟨v, hv⟩ : ∃ v, v = Pol.ev (p.drop (j + 1)) x := ⟨_, rfl⟩
      obtain ⟨a, ha⟩ : ∃ a, a = Pol.co p j := ⟨_, rfl⟩
      rw [← hv]
      rw [← ha] at hcell
      rw [← hv, ← ha] at E
      have HV := Lib.hid (ST.out v a)
      obtain ⟨p1, p2⟩ := PB.out v
      have v1 := Fp.val_bound v
      have a1 := Fp.val_bound a
      clear hv ha
      unfold el
      generalize (v.val : Int) = vv at *
      generalize (a.val : Int) = av at *
      go_wp2_with fail
      go_round
      case rel => exact ⟨j, by omega, by go_num, by rw [HV.out, ← E.out]⟩
      case measure => simp [intOf]

end Go.Proofs.Ytnjhdedhobgplaa

/- Contracts of the document's answer for package field (package rankmereref1: Mod, Pow, Div), within the document's bounds. -/
namespace Go.Proofs.Ytnjhdedhobgplaa
open Go.ChangeShapes Go.WideShapes Go.ChangeAt Go.RowKit
set_option linter.unusedVariables false

theorem refMod_any (n : Int) (w : World) (h1 : -1000000000000000 ≤ n) (h2 : n ≤ 1000000000000000) :
    Calls Try.prog 13 #[.int .i64 n] w fun e w' => e = .returned (.int .i64 (n % 9973)) ∧ w = w' := by
  obtain ⟨f1, f2⟩ := Num.tmod_fix n 9973 (by omega)
  obtain ⟨b2, b1⟩ := Num.tmod_bound n 9973 (by omega)
  have F1 := Lib.hid f1
  have F2 := Lib.hid f2
  clear f1 f2
  by_cases h : n.tmod 9973 < 0
  · go_enter Try.func13, Try.ntmps13
    go_wp2
    go_ret
    exact ⟨ret_int (F1.out h), rfl⟩
  · have h' : 0 ≤ n.tmod 9973 := by omega
    clear h
    go_enter Try.func13, Try.ntmps13
    go_wp2
    go_ret
    exact ⟨ret_int (F2.out h'), rfl⟩

theorem refMod_el (n : Int) (w : World) (h1 : -1000000000000000 ≤ n) (h2 : n ≤ 1000000000000000) :
    Calls Try.prog 13 #[.int .i64 n] w fun e w' => e = .returned (el (Fp.ofInt n)) ∧ w = w' := by
  have h := refMod_any n w h1 h2
  unfold el
  rw [Fp.ofInt_val]
  exact h



end Go.Proofs.Ytnjhdedhobgplaa

/- What the laws of package poly share: Factors, Trim and Ints on rows of factors, the closed fact. -/
namespace Go.Proofs.Ytnjhdedhobgplaa
open Go.ChangeShapes Go.WideShapes Go.ChangeAt Go.RowKit
set_option linter.unusedVariables false

theorem code_all (l : List Int) (h : ¬ 12 < l.length) : (AllIn l 0 9972 ∧ Pol.code l = 0) ∨ (¬ AllIn l 0 9972 ∧ Pol.code l = 1) := by
  by_cases ha : AllIn l 0 9972
  · exact .inl ⟨ha, Pol.code_ok h ha⟩
  · refine .inr ⟨ha, ?_⟩
    rcases Pol.code_some l with e | e | e
    · exact absurd ((Pol.code_zero_iff l).1 e).2 ha
    · exact e
    · exfalso
      unfold Pol.code at e
      rw [if_neg h] at e
      split at e <;> cases e

theorem fact_mul : Pol.mul [1, 1] [9972, 1] = [9972, 0, 1] := by decide +kernel
theorem fact_div (q r : List Fp.F) (h : Pol.Dv (Pol.trim [5, 0, 1]) (Pol.trim [1, 1]) q r) : q = [9972, 1] ∧ r = [6] := by
  rw [show Pol.trim [5, 0, 1] = [5, 0, 1] by decide +kernel, show Pol.trim [1, 1] = [1, 1] by decide +kernel] at h
  refine h.one (by unfold Pol.Tr; decide) (by simp) (by simp) ⟨by unfold Pol.Tr; decide, by unfold Pol.Tr; decide, by simp, by simp, fun x => ?_⟩
  simp only [Pol.ev_cons, Pol.ev_nil]
  grind

/-- The contracts, with the lengths as numbers. -/
theorem gcd_ok' (A B : Option Addr) (p q : List Fp.F) (n m c d : Nat) (w : World) (ha : Lies w A (Pol.vals p)) (hb : Lies w B (Pol.vals q)) (hn : n = p.length) (hm : m = q.length) (hp : n ≤ 12) (hq : m ≤ 12) (hc : n ≤ c) (hd : m ≤ d) :
    Calls Try.prog 10 #[.slice A n c, .slice B m d] w fun e w' => ∃ z, Pol.Gc (Pol.trim p) (Pol.trim q) z ∧ Gives (Pol.mon z) w e w' := by subst hn hm; exact gcd_ok A B p q c d w ha hb hp hq hc hd
theorem at_ok' (A : Option Addr) (p : List Fp.F) (n c : Nat) (x : Fp.F) (w : World) (ha : Lies w A (Pol.vals p)) (hn : n = p.length) (hp : n ≤ 12) :
    Calls Try.prog 14 #[.slice A n c, el x] w fun e w' => e = .returned (.tuple #[el (Pol.ev p x), .nilIface]) ∧ w = w' := by subst hn; exact at_ok A p c x w ha (by omega) (Pol.code_vals p hp)

end Go.Proofs.Ytnjhdedhobgplaa

/- The laws' small function 'in'. -/
namespace Go.Proofs.Ytnjhdedhobgplaa
open Go.ChangeShapes Go.WideShapes Go.ChangeAt Go.RowKit
set_option linter.unusedVariables false


theorem law3In_any (n a b : Int) (w : World) (t : Bool) (h : (decide (a ≤ n) && decide (n ≤ b)) = t) :
    Calls Try.prog 15 #[.int .i64 n, .int .i64 a, .int .i64 b] w fun e w' => e = .returned (.bool t) ∧ w = w' := by
  have H := Lib.hid h
  clear h
  by_cases h1 : a ≤ n
  · by_cases h2 : n ≤ b
    · go_enter Try.func15, Try.ntmps15
      go_wp2
      go_ret
      exact ⟨ret_bool (by rw [← H.out]; simp [h1, h2]), rfl⟩
    · go_enter Try.func15, Try.ntmps15
      go_wp2
      go_ret
      exact ⟨ret_bool (by rw [← H.out]; simp [h1]; omega), rfl⟩
  · go_enter Try.func15, Try.ntmps15
    go_wp2
    go_ret
    exact ⟨ret_bool (by rw [← H.out]; simp; omega), rfl⟩

theorem topIn_any (n a b : Int) (w : World) (t : Bool) (h : (decide (a ≤ n) && decide (n ≤ b)) = t) :
    Calls Try.prog 16 #[.int .i64 n, .int .i64 a, .int .i64 b] w fun e w' => e = .returned (.bool t) ∧ w = w' := by
  have H := Lib.hid h
  clear h
  by_cases h1 : a ≤ n
  · by_cases h2 : n ≤ b
    · go_enter Try.func16, Try.ntmps16
      go_wp2
      go_ret
      exact ⟨ret_bool (by rw [← H.out]; simp [h1, h2]), rfl⟩
    · go_enter Try.func16, Try.ntmps16
      go_wp2
      go_ret
      exact ⟨ret_bool (by rw [← H.out]; simp [h1]; omega), rfl⟩
  · go_enter Try.func16, Try.ntmps16
    go_wp2
    go_ret
    exact ⟨ret_bool (by rw [← H.out]; simp; omega), rfl⟩

end Go.Proofs.Ytnjhdedhobgplaa

/- The law ResultRoots. -/
namespace Go.Proofs.Ytnjhdedhobgplaa
open Go.ChangeShapes Go.WideShapes Go.ChangeAt Go.RowKit
set_option linter.unusedVariables false

/-- The product of the first k factors x less X i. -/
def rl (X : Nat → Fp.F) : Nat → List Fp.F
  | 0 => [1]
  | k + 1 => Pol.mul (rl X k) [-X k, 1]
theorem lin_tr (x : Fp.F) : Pol.Tr [-x, 1] := fun _ => by show (1 : Fp.F) ≠ 0; decide
theorem rl_facts (X : Nat → Fp.F) (h : List Fp.F) : ∀ k, k ≤ 10 → Pol.Tr (rl X k) ∧ (rl X k).length = k + 1 ∧ rl X k ≠ [] ∧ rl X (k + 1) = Pol.pmul (rl X k) [-X k, 1] ∧ Mx.res (rl X k) h = Mx.pr k fun i => Pol.ev h (X i) := by
  have step : ∀ k, k ≤ 10 → Pol.Tr (rl X k) → (rl X k).length = k + 1 → rl X (k + 1) = Pol.pmul (rl X k) [-X k, 1] := fun k hk t l => by
    show Pol.mul (rl X k) [-X k, 1] = _
    rw [Pol.mul_of _ _ (by omega) (by simp) (by rw [Pol.trim_tr _ (lin_tr _)]; simp), Pol.trim_tr _ t, Pol.trim_tr _ (lin_tr _)]
  intro k
  induction k with
  | zero =>
    intro _
    have t : Pol.Tr (rl X 0) := fun _ => by show (1 : Fp.F) ≠ 0; decide
    exact ⟨t, rfl, by simp [rl], step 0 (by omega) t rfl, Mx.res_one h⟩
  | succ k ih =>
    intro hk
    obtain ⟨t, l, ne, e, v⟩ := ih (by omega)
    have t2 : Pol.Tr (rl X (k + 1)) := by rw [e]; exact Pol.tr_pmul _ _ t (lin_tr _) (by simp)
    have l2 : (rl X (k + 1)).length = k + 1 + 1 := by
      have := Pol.len_pmul (rl X k) [-X k, 1] ne (by simp)
      rw [e]; simp at this; omega
    refine ⟨t2, l2, by rw [e]; exact Pol.pmul_ne _ _ ne (by simp), step (k + 1) hk t2 l2, ?_⟩
    rw [e, Mx.res_mul h ne (by simp) (lin_tr _), Mx.res_lin, v]
    rfl
theorem neg_val (x : Fp.F) : Fp.ofInt (-(x.val : Int)) = -x := by
  rw [show (-(x.val : Int)) = -1 * (x.val : Int) by omega, Fp.ofInt_mul, Fp.ofInt_self]
  show (-1 : Fp.F) * x = -x
  grind

theorem roots_none (A B : Option Addr) (L M : List Int) (c d : Nat) (w : World) (h : L.length = 0 ∨ 4 < L.length) :
    Calls Try.prog 4 #[.slice A L.length c, .slice B M.length d] w fun e w' => e = .returned (.bool true) ∧ Kp w w' := by
  generalize L.length = n at *
  generalize M.length = m at *
  rcases h with rfl | h
  · go_enter Try.func4, Try.ntmps4
    go_wp2_with fail
    refine (resultFact_any _).mono ?_; rintro e w1 ⟨rfl, k1⟩
    have K := Lib.hid k1
    clear k1
    go_wp2_with fail
    go_ret
    exact ⟨rfl, K.out⟩
  · have e0 : ((n : Int) == 0) = false := by rw [beq_eq_false_iff_ne]; omega
    have e1 : (4 : Int) < (n : Int) := by omega
    clear h
    go_enter Try.func4, Try.ntmps4
    go_wp2_with fail
    refine (resultFact_any _).mono ?_; rintro e w1 ⟨rfl, k1⟩
    have K := Lib.hid k1
    clear k1
    go_wp2_with fail
    go_ret
    exact ⟨rfl, K.out⟩
theorem roots_range (A B : Option Addr) (L M : List Int) (c d : Nat) (w : World) (ha : Lies w A L) (h0 : ¬ (L.length = 0 ∨ 4 < L.length)) (h : ¬ AllIn L 0 9972) :
    Calls Try.prog 4 #[.slice A L.length c, .slice B M.length d] w fun e w' => e = .returned (.bool true) ∧ Kp w w' := by
  have E := Lib.hid (fun w' (k : Kp w w') => (all_any A L c 0 9972 w' (ha.keep k) (by omega)))
  have H1 := Lib.hid h
  generalize L.length = n at *
  generalize M.length = m at *
  have e0 : ((n : Int) == 0) = false := by rw [beq_eq_false_iff_ne]; omega
  have e1 : ¬ (4 : Int) < (n : Int) := by omega
  clear h h0 ha
  go_enter Try.func4, Try.ntmps4
  go_wp2_with fail
  refine (resultFact_any _).mono ?_; rintro e w1 ⟨rfl, k1⟩
  have K := Lib.hid k1
  clear k1
  go_wp2_with fail
  refine (E.out _ K.out).mono ?_; rintro e w' ⟨ht, rfl⟩
  obtain rfl := tells_no ht H1.out
  go_wp2_with fail
  go_ret
  exact ⟨rfl, K.out⟩

set_option maxRecDepth 100000 in
set_option maxHeartbeats 6400000 in
theorem roots_main (A B : Option Addr) (X : List Fp.F) (L M : List Int) (n c d : Nat) (w : World) (hX : L = Pol.vals X) (hn : n = X.length) (ha : Lies w A L) (hb : Lies w B M) (bM : M.length ≤ 9223372036854775807) (h0 : 0 < n) (h4 : n ≤ 4) :
    Calls Try.prog 4 #[.slice A n c, .slice B M.length d] w fun e w' => e = .returned (.bool true) ∧ Kp w w' := by
  have hL : L.length = n := by rw [hX, Pol.len_vals, hn]
  have E := Lib.hid (fun w' (k : Kp w w') => show Calls Try.prog 11 #[.slice A n c, .int .i64 0, .int .i64 9972] w' fun e w'' => e = .returned (.bool true) ∧ w' = w'' from by
    have h := all_any A L c 0 9972 w' (ha.keep k) (by omega)
    rw [hL] at h
    exact h.mono fun e w'' ⟨ht, hw⟩ => ⟨tells_yes ht (by rw [hX]; exact vals_in X), hw⟩)
  have XA := Lib.hid (show ∀ (w' : World) (k : Kp w w') (i : Nat), i < n → ∃ ad, A = some ad ∧ w'.cell? (ad.add i) = some (.int .i64 ((Pol.co X i).val : Int)) from fun w' k i hi => by
    obtain ⟨ad, e, _, x⟩ := (ha.keep k) i (by omega)
    rw [hX, Pol.vals_at] at x
    exact ⟨ad, e, x⟩)
  have R := Lib.hid (fun k (h : k ≤ 10) (q : List Fp.F) => rl_facts (Pol.co X) q k h)
  have HM := Lib.hid (fun w' (k : Kp w w') => hb.keep k)
  have e0 : ((n : Int) == 0) = false := by rw [beq_eq_false_iff_ne]; omega
  have e1 : ¬ (4 : Int) < (n : Int) := by omega
  generalize Pol.co X = x at *
  clear ha hX hn hL hb
  have MU := Lib.hid (fun (k : Nat) (hk : k < 5) (P Q : Option Addr) (u v : Nat) (w' : World) (h1 : Lies w' P (Pol.vals (rl x k))) (h2 : Lies w' Q [((-x k : Fp.F).val : Int), 1]) => show Calls Try.prog 12 #[.slice P (k + 1) u, .slice Q 2 v] w' fun e w'' =>
      ∃ A c, e = .returned (.tuple #[.slice A (k + 1 + 1) c, .nilIface]) ∧ Lies w'' A (Pol.vals (rl x (k + 1))) ∧ Kp w' w'' from by
    have h := mul_ok' P Q (rl x k) [-x k, 1] (k + 1) 2 u v w' h1 h2 (R.out k (by omega) []).2.1.symm rfl (by omega) (by omega)
    refine h.mono ?_
    rintro e w'' ⟨A', c', rfl, h3, _, h5⟩
    refine ⟨A', c', ?_, h3, h5⟩
    rw [show (Pol.mul (rl x k) [-x k, 1]).length = k + 1 + 1 from (R.out (k + 1) (by omega) []).2.1])
  have MN := Lib.hid (fun (k : Nat) (w' : World) => show Calls Try.prog 13 #[.int .i64 (-((x k).val : Int))] w' fun e w'' => e = .returned (.int .i64 ((-x k : Fp.F).val : Int)) ∧ w' = w'' from by
    have bx := Fp.val_bound (x k)
    have h := refMod_el (-((x k).val : Int)) w' (by omega) (by omega)
    rw [neg_val] at h
    exact h)
  generalize hm : M.length = m at *
  have HMM := Lib.hid hm
  have h1n : 1 ≤ n := h0
  clear hm
  go_enter Try.func4, Try.ntmps4
  go_wp2_with fail
  refine (resultFact_any _).mono ?_; rintro e w1 ⟨rfl, k1⟩
  have K := Lib.hid k1
  clear k1
  go_wp2_with fail
  refine (E.out _ K.out).mono ?_; rintro e w' ⟨rfl, rfl⟩
  go_wp2_with fail
  have KA := Lib.hid (K.out.new (.cells #[.int .i64 1] 3))
  have LA := Lib.hid (show Lies (w1.alloc (.cells #[.int .i64 1] 3)) (some ⟨w1.heap.size, 0, none⟩) (Pol.vals (rl x 0)) from lies_new w1 3 [1])
  go_loopw [6, 7] (fun f i wr => ∃ (k : Nat) (P : Option Addr) (u : Nat), k ≤ n ∧ f = .slice P (k + 1) u ∧ i = .int .i64 (k : Int) ∧ Lies wr P (Pol.vals (rl x k)) ∧ Kp w wr) (fun _ i _ => n - (intOf i).toNat)
  case atStart => exact ⟨0, _, _, Nat.zero_le _, rfl, rfl, LA.out, KA.out⟩
  case round =>
    obtain ⟨k, P, u, hk, rfl, rfl, hl, hkp⟩ := hrel
    obtain ⟨wo, hwo⟩ : ∃ y, y = wr := ⟨_, rfl⟩
    subst hwo
    clear KA LA
    by_cases hlt : k < n
    · obtain ⟨ad, rfl, x1⟩ := XA.out wo hkp k hlt
      have MN1 := Lib.hid (MN.out k wo)
      have MU1 := Lib.hid (MU.out k (by omega) P (some ⟨wo.heap.size, 0, none⟩) u 2 (wo.alloc (.cells #[.int .i64 ((-x k : Fp.F).val : Int), .int .i64 1] 3)) (hl.keep ((Kp.rfl' _).new _)) (lies_new wo 3 [((-x k : Fp.F).val : Int), 1]))
      have HK := Lib.hid (hkp.new (.cells #[.int .i64 ((-x k : Fp.F).val : Int), .int .i64 1] 3))
      have bb := Fp.val_bound (x k)
      have hw : IntKind.i64.wrap (-((x k).val : Int)) = -((x k).val : Int) := IntWalk.i64_in _ (by omega)
      generalize ((-x k : Fp.F).val : Int) = y at *
      generalize ((x k).val : Int) = z at *
      clear hl hkp
      go_wp2_with fail
      refine (MN1.out).mono ?_; rintro e w2 ⟨rfl, rfl⟩
      go_wp2_with fail
      refine (MU1.out).mono ?_; rintro e w3 ⟨P3, u3, rfl, l3, k3⟩
      have L3 := Lib.hid l3
      have K3 := Lib.hid (HK.out.trans k3)
      clear l3 k3
      go_wp2_with fail
      go_roundw
      case rel => exact ⟨k + 1, P3, u3, by omega, by go_num, by go_num, L3.out, K3.out⟩
      case measure => simp [intOf]; omega
    · obtain rfl : k = n := by omega
      have HL := Lib.hid hl
      have HK := Lib.hid hkp
      clear hl hkp
      rcases re_or (Pol.vals (rl x k)) M with ⟨p, q, s⟩ | hbad
      · obtain rfl : rl x k = p := Pol.vals_inj s.l
        have OF := Lib.hid (show Calls Try.prog 9 #[.slice P (k + 1) u, .slice B m d] wo fun e w' => e = .returned (.tuple #[.int .i64 ((Mx.pr k fun i => Pol.ev q (x i)).val : Int), .nilIface]) ∧ Kp wo w' from by
          have h := ReOf_ok s P B u d wo HL.out (HM.out wo HK.out)
          rw [(R.out k (by omega) q).2.2.2.2, (R.out k (by omega) q).2.1, ← s.lenM, HMM.out] at h
          exact h)
        have AT := Lib.hid (fun (w' : World) (kk : Kp w w') (i : Nat) => show Calls Try.prog 14 #[.slice B m d, .int .i64 ((x i).val : Int)] w' fun e w'' => e = .returned (.tuple #[.int .i64 ((Pol.ev q (x i)).val : Int), .nilIface]) ∧ w' = w'' from by
          have h2 := HM.out w' kk
          rw [s.m] at h2
          exact at_ok' B q m d (x i) w' h2 (by rw [← HMM.out]; exact s.lenM) (by have := s.hi; have := s.lenM; have := HMM.out; omega))
        have IN := Lib.hid (fun (i : Nat) (w' : World) => law3In_any ((Pol.ev q (x i)).val : Int) 0 9972 w' true (by have := Fp.val_bound (Pol.ev q (x i)); simp; omega))
        clear HL s R
        go_wp2_with fail
        refine (OF.out).mono ?_; rintro e w2 ⟨rfl, k2⟩
        have K2 := Lib.hid (HK.out.trans k2)
        clear k2 OF
        go_wp2_with fail
        go_loopw [12, 13] (fun g i wr => ∃ (t : Nat), t ≤ k ∧ g = .int .i64 ((Mx.pr t fun i => Pol.ev q (x i)).val : Int) ∧ i = .int .i64 (t : Int) ∧ Kp w wr) (fun _ i _ => k - (intOf i).toNat)
        case atStart => exact ⟨0, Nat.zero_le _, rfl, rfl, K2.out⟩
        case round =>
          obtain ⟨t, ht, rfl, rfl, hkt⟩ := hrel
          have HT := Lib.hid hkt
          clear hkt K2
          by_cases hlt2 : t < k
          · obtain ⟨ad, rfl, x1⟩ := XA.out wr HT.out t hlt2
            have AT1 := Lib.hid (AT.out wr HT.out t)
            have IN1 := Lib.hid (IN.out t wr)
            have MO := Lib.hid (show Calls Try.prog 13 #[.int .i64 (((Mx.pr t fun i => Pol.ev q (x i)).val : Int) * ((Pol.ev q (x t)).val : Int))] wr fun e w'' => e = .returned (.int .i64 ((Mx.pr (t + 1) fun i => Pol.ev q (x i)).val : Int)) ∧ wr = w'' from by
              have b1 := Fp.val_bound (Mx.pr t fun i => Pol.ev q (x i))
              have b2 := Fp.val_bound (Pol.ev q (x t))
              have b3 := Int.mul_le_mul b1.2 b2.2 b2.1 (by omega)
              have b4 := Int.mul_nonneg b1.1 b2.1
              have h := refMod_el (((Mx.pr t fun i => Pol.ev q (x i)).val : Int) * ((Pol.ev q (x t)).val : Int)) wr (by omega) (by omega)
              rw [Fp.ofInt_mul, Fp.ofInt_self, Fp.ofInt_self] at h
              exact h)
            have hw : IntKind.i64.wrap (((Mx.pr t fun i => Pol.ev q (x i)).val : Int) * ((Pol.ev q (x t)).val : Int)) = ((Mx.pr t fun i => Pol.ev q (x i)).val : Int) * ((Pol.ev q (x t)).val : Int) := by
              have b1 := Fp.val_bound (Mx.pr t fun i => Pol.ev q (x i))
              have b2 := Fp.val_bound (Pol.ev q (x t))
              have b3 := Int.mul_le_mul b1.2 b2.2 b2.1 (by omega)
              have b4 := Int.mul_nonneg b1.1 b2.1
              exact IntWalk.i64_in _ (by omega)
            obtain ⟨v, hv⟩ : ∃ v, v = ((Mx.pr (t + 1) fun i => Pol.ev q (x i)).val : Int) := ⟨_, rfl⟩
            rw [← hv] at MO
            have HV := Lib.hid hv
            generalize ((Mx.pr t fun i => Pol.ev q (x i)).val : Int) = y at *
            generalize ((Pol.ev q (x t)).val : Int) = z at *
            generalize ((x t).val : Int) = r at *
            clear hv
            go_wp2_with fail
            refine (AT1.out).mono ?_; rintro e w3 ⟨rfl, rfl⟩
            go_wp2_with fail
            refine (IN1.out).mono ?_; rintro e w3 ⟨rfl, rfl⟩
            go_wp2_with fail
            refine (MO.out).mono ?_; rintro e w3 ⟨rfl, rfl⟩
            go_wp2_with fail
            go_roundw
            case rel => exact ⟨t + 1, by omega, by rw [HV.out], by go_num, HT.out⟩
            case measure => simp [intOf]; omega
          · obtain rfl : t = k := by omega
            go_wp2_with fail
            go_ret
            exact ⟨by simp, HT.out⟩
      · have OF := Lib.hid (show Calls Try.prog 9 #[.slice P (k + 1) u, .slice B m d] wo fun e w' => ∃ z : Nat, e = .returned (.tuple #[.int .i64 0, .iface 47 (.int .i64 (z : Int))]) ∧ wo = w' from by
          have h := ReOf_no hbad (by rw [Pol.len_vals, (R.out k (by omega) []).2.1]; omega) (by rw [HMM.out]; exact bM) P B u d wo HL.out (HM.out wo HK.out)
          rw [Pol.len_vals, (R.out k (by omega) []).2.1, HMM.out] at h
          exact h)
        clear HL hbad R
        go_wp2_with fail
        refine (OF.out).mono ?_; rintro e w2 ⟨z, rfl, rfl⟩
        go_wp2_with fail
        go_ret
        exact ⟨rfl, HK.out⟩

theorem walk_ResultRoots (A : Option Addr) (L : List Int) (c : Nat) (B : Option Addr) (M : List Int) (d : Nat) (w : World) (ha : Lies w A L) (lc : L.length ≤ c) (bL : L.length ≤ 9223372036854775807) (hb : Lies w B M) (ld : M.length ≤ d) (bM : M.length ≤ 9223372036854775807) :
    Calls Try.prog 4 #[.slice A L.length c, .slice B M.length d] w fun e w' => e = .returned (.bool true) ∧ Kp w w' := by
  by_cases h0 : L.length = 0 ∨ 4 < L.length
  · exact roots_none A B L M c d w h0
  · by_cases h : AllIn L 0 9972
    · obtain ⟨X, hX⟩ := vals_of h
      have hn : L.length = X.length := by rw [hX, Pol.len_vals]
      exact roots_main A B X L M L.length c d w hX hn ha hb bM (by omega) (by omega)
    · exact roots_range A B L M c d w ha h0 h

end Go.Proofs.Ytnjhdedhobgplaa
