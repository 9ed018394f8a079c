/- Contracts of package det, first part: ascending, Sign. -/
import Derived.Test.YtkebjmapdcbnaaaDeM
import Derived.Test.YtkebjmapdcbnaaaClone
import Derived.Test.YtkebjmapdcbnaaaGrid
import Derived.Test.YtkebjmapdcbnaaaOwnH
import Derived.StillTailTactics
import Derived.Deep.LoopGhost
namespace Go.Proofs.Ytkebjmapdcbnaaa
open Go.ChangeShapes Go.WideShapes Go.ChangeAt Go.RowKit
set_option linter.unusedVariables false


/-- Where the sorting of an order stands: x times the sign of what is left is the order's sign; the first k are at their places. -/
structure Srt (w0 w : World) (g n c : Nat) (S : Fp.F) (k : Nat) (l : List Int) (x : Int) : Prop where
  own : Own w w0.heap.size (.slice (some ⟨g, 0, none⟩) n c) l
  len : l.length = n
  pm : x = 1 ∨ x = -1
  eq : Fp.ofInt x * Mx.sp n (fun i => l.getD i 0) = S
  fix : ∀ t, t < k → l.getD t 0 = (t : Int)
  kp : Kp w0 w
theorem Srt.next {w0 w : World} {g n c : Nat} {S : Fp.F} {k : Nat} {l : List Int} {x : Int} (h : Srt w0 w g n c S k l x) (e : l.getD k 0 = (k : Int)) : Srt w0 w g n c S (k + 1) l x :=
  ⟨h.own, h.len, h.pm, h.eq, fun t ht => by
    by_cases hk : t = k
    · rw [hk]; exact e
    · exact h.fix t (by omega), h.kp⟩
theorem getD_set2 {l : List Int} {k m : Nat} (hk : k < l.length) (hm : m < l.length) (x y : Int) (i : Nat) : ((l.set k x).set m y).getD i 0 = if i = m then y else if i = k then x else l.getD i 0 := by
  rw [List.getD_eq_getElem?_getD, List.getD_eq_getElem?_getD, List.getElem?_set, List.getElem?_set]
  by_cases h1 : i = m
  · rw [if_pos h1.symm, if_pos (by simpa using hm), if_pos h1]; rfl
  · rw [if_neg (fun e => h1 e.symm), if_neg h1]
    by_cases h2 : i = k
    · rw [if_pos h2.symm, if_pos hk, if_pos h2]; rfl
    · rw [if_neg (fun e => h2 e.symm), if_neg h2]
/-- Two numbers change places: the one that stood at place k comes home. -/
theorem Srt.swap {w0 w : World} {g n c : Nat} {S : Fp.F} {k : Nat} {l : List Int} {x : Int} (h : Srt w0 w g n c S k l x) (hk : k < n) {m : Nat} (hm : m < n) (e : l.getD k 0 = (m : Int)) (hne : m ≠ k) (h2 : l.getD m 0 ≠ (m : Int)) (hB : w0.heap.size ≤ g) :
    Srt w0 ((w.setCell ⟨g, k, none⟩ (.int .i64 (l.getD m 0))).setCell ⟨g, m, none⟩ (.int .i64 (m : Int))) g n c S k ((l.set k (l.getD m 0)).set m (m : Int)) (-x) ∧
      Mx.nf n (fun i => ((l.set k (l.getD m 0)).set m (m : Int)).getD i 0) < Mx.nf n fun i => l.getD i 0 := by
  have hg : ∀ i, ((l.set k (l.getD m 0)).set m (m : Int)).getD i 0 = l.getD (Mx.sw k m i) 0 := fun i => by
    rw [getD_set2 (by rw [h.len]; exact hk) (by rw [h.len]; exact hm)]
    by_cases h1 : i = m
    · rw [if_pos h1, h1, Mx.sw_right, e]
    · rw [if_neg h1]
      by_cases h3 : i = k
      · rw [if_pos h3, h3, Mx.sw_left]
      · rw [if_neg h3, Mx.sw_none h3 h1]
  refine ⟨⟨own_put (own_put h.own k _) m _, by rw [List.length_set, List.length_set]; exact h.len, ?_, ?_, fun t ht => ?_, (h.kp.put (p := ⟨g, k, none⟩) hB _).put (p := ⟨g, m, none⟩) hB _⟩, ?_⟩
  · rcases h.pm with a | a <;> rw [a] <;> simp
  · rw [Mx.sp_congr (t := fun i => l.getD (Mx.sw k m i) 0) fun i _ => hg i, Mx.sp_swap (fun i => l.getD i 0) hk hm (fun e => hne e.symm), Mx.ofInt_neg, ← h.eq]; grind
  · have h3 := h.fix t ht
    have : t ≠ m := fun e => by rw [e] at h3; exact h2 h3
    rw [hg, Mx.sw_none (by omega) this]; exact h3
  · refine Mx.nf_lt n (m := m) (fun i hi h3 => ?_) hm h2 ?_
    · have a1 : i ≠ m := fun e => by rw [e] at h3; exact h2 h3
      have a2 : i ≠ k := fun e2 => by rw [e2] at h3; rw [h3] at e; omega
      rw [hg, Mx.sw_none a2 a1]; exact h3
    · rw [hg, Mx.sw_right]; exact e

/-- The sign of an order comes out. -/
def Signed (S : Fp.F) (w : World) (e : Ending) (w' : World) : Prop := ∃ x, e = .returned (.int .i64 x) ∧ Mx.SgnIs S x ∧ Kp w w'
set_option maxRecDepth 100000 in
set_option maxHeartbeats 3200000 in
theorem Sign_pos (A : Option Addr) (l : List Int) (n c : Nat) (w : World) (hl : Lies w A l) (hn : l.length = n) (h0 : 0 < n) (h1 : n ≤ 1000) :
    Calls Try.prog 16 #[.slice A n c] w fun e w' => Signed (Mx.sp n fun i => l.getD i 0) w e w' := by
  have CL := Lib.hid (show Calls Try.prog 24 #[.slice A n c] w fun e w' => SomeRow l w e w' by
    rw [← hn]; exact sclone_any A l c w hl (by omega))
  obtain ⟨S, hS⟩ : ∃ S, S = Mx.sp n fun i => l.getD i 0 := ⟨_, rfl⟩
  rw [← hS]
  have HS := Lib.hid hS
  have HN := Lib.hid hn
  clear hl hS hn
  go_enter Try.func16, Try.ntmps16
  go_wp2_with fail
  refine (CL.out).mono ?_; rintro e w1 ⟨v, rfl, ho, hk⟩
  obtain ⟨g, cap, rfl, hg, hcap⟩ := own_some ho (by rw [HN.out]; exact h0)
  rw [HN.out] at ho hcap ⊢
  have ST := Lib.hid (show Srt w w1 g n cap S 0 l 1 from ⟨ho, HN.out, .inl rfl, by rw [← HS.out, show Fp.ofInt 1 = 1 from rfl]; grind, fun t ht => absurd ht (by omega), hk⟩)
  have HB := Lib.hid hg
  clear ho hk hg
  go_wp2_with fail
  go_loopw [3, 11] (fun s i wr => ∃ (k : Nat) (l : List Int) (x : Int), k ≤ n ∧ i = .int .i64 (k : Int) ∧ s = .int .i64 x ∧ Srt w wr g n cap S k l x) (fun _ i _ => n - (intOf i).toNat)
  case atStart => exact ⟨0, l, 1, Nat.zero_le _, rfl, rfl, ST.out⟩
  case round =>
    clear ST HS HN
    obtain ⟨k, l, x, hk, rfl, rfl, st⟩ := hrel
    by_cases hlt : k < n
    · have ST := Lib.hid st
      clear st
      go_wp2_with fail
      go_loopg [3] (Mx.nf n fun i => l.getD i 0) (fun q s wq => ∃ (l : List Int) (x : Int), s = .int .i64 x ∧ Srt w wq g n cap S k l x ∧ Mx.nf n (fun i => l.getD i 0) = q)
      case atStart => exact ⟨l, x, rfl, ST.out, rfl⟩
      case round =>
        clear ST
        obtain ⟨l, x, rfl, st, hq⟩ := hrel
        have ST := Lib.hid st
        have HQ := Lib.hid hq
        have c1 := own_cell st.own k (by rw [st.len]; exact hlt)
        have z1 := own_free st.own k
        have hxb : -1 ≤ x ∧ x ≤ 1 := by rcases st.pm with a | a <;> omega
        obtain ⟨y, hy⟩ : ∃ y, y = l.getD k 0 := ⟨_, rfl⟩
        rw [← hy] at c1
        have HY := Lib.hid hy
        clear st hq hy
        by_cases e : y = (k : Int)
        · have e1 : (y != (k : Int)) = false := by rw [e]; simp
          have ST2 := Lib.hid (ST.out.next (by rw [← HY.out]; exact e))
          clear e
          go_wp2_with fail
          go_roundw
          case rel => exact ⟨k + 1, l, x, by omega, by go_num, rfl, ST2.out⟩
          case measure => simp [intOf]; omega
        · have e1 : (y != (k : Int)) = true := by rw [bne_iff_ne]; exact e
          have ZERO := Lib.hid (fun h : Mx.sp n (fun i => l.getD i 0) = 0 => show Mx.SgnIs S 0 from ⟨.inr (.inr rfl), by rw [← ST.out.eq, h, show Fp.ofInt 0 = 0 from rfl]; grind⟩)
          by_cases h2 : y < 0
          · have Z := Lib.hid (ZERO.out (Mx.sp_out hlt (.inl (by rw [← HY.out]; exact h2))))
            clear e ZERO
            go_wp2_with fail
            go_ret
            exact ⟨0, rfl, Z.out, ST.out.kp⟩
          · by_cases h3 : (n : Int) ≤ y
            · have Z := Lib.hid (ZERO.out (Mx.sp_out hlt (.inr (by rw [← HY.out]; exact h3))))
              clear e ZERO
              go_wp2_with fail
              go_ret
              exact ⟨0, rfl, Z.out, ST.out.kp⟩
            · obtain ⟨m, rfl⟩ : ∃ m : Nat, y = (m : Int) := ⟨y.toNat, by omega⟩
              have hm : m < n := by omega
              have hne : m ≠ k := fun h => e (by rw [h])
              have c2 := own_cell ST.out.own m (by rw [ST.out.len]; exact hm)
              obtain ⟨z, hz⟩ : ∃ z, z = l.getD m 0 := ⟨_, rfl⟩
              rw [← hz] at c2
              have HZ := Lib.hid hz
              clear hz h2 h3 e
              by_cases e2 : z = (m : Int)
              · have e3 : (z == (m : Int)) = true := by rw [e2]; simp
                have Z := Lib.hid (ZERO.out (Mx.sp_twice hlt hm (fun h => hne h.symm) (by rw [← HY.out, ← HZ.out, e2])))
                clear ZERO e2
                go_wp2_with fail
                go_ret
                exact ⟨0, rfl, Z.out, ST.out.kp⟩
              · have e3 : (z == (m : Int)) = false := by rw [beq_eq_false_iff_ne]; exact e2
                have SW := Lib.hid (ST.out.swap hlt hm HY.out.symm hne (by rw [← HZ.out]; exact e2) HB.out)
                rw [← HZ.out] at SW
                have z3 := own_free (own_put ST.out.own k z) m
                have c3 : (wr.setCell ⟨g, k, none⟩ (.int .i64 z)).cell? ⟨g, m, none⟩ = some (.int .i64 z) := by
                  have hne' : (⟨g, k, none⟩ : Addr) ≠ ⟨g, m, none⟩ := fun e' => hne (by cases e'; rfl)
                  rw [World.cell?_setCell_other (w := wr) (v := .int .i64 z) (h := hne')]; exact c2

                have hwn : IntKind.i64.wrap (-x) = -x := IntWalk.i64_in _ (by omega)
                clear ZERO e2
                go_wp2_with fail
                go_roundg (Mx.nf n fun i => ((l.set k z).set m (m : Int)).getD i 0)
                case measure => rw [← HQ.out]; exact SW.out.2
                case rel => exact ⟨(l.set k z).set m (m : Int), -x, rfl, SW.out.1, rfl⟩
    · obtain rfl : k = n := by omega
      have Z := Lib.hid (show Mx.SgnIs S x from ⟨by rcases st.pm with a | a <;> simp [a], by
        rw [← st.eq, Mx.sp_id fun i hi => st.fix i hi]; grind⟩)
      have HK := Lib.hid st.kp
      clear st
      go_wp2_with fail
      go_ret
      exact ⟨x, rfl, Z.out, HK.out⟩

set_option maxRecDepth 100000 in
theorem Sign_zero (A : Option Addr) (c : Nat) (w : World) :
    Calls Try.prog 16 #[.slice A 0 c] w fun e w' => Signed 1 w e w' := by
  have CL := Lib.hid (sclone_any A [] c w (fun k hk => absurd hk (by simp)) (by simp))
  rw [List.length_nil] at CL
  go_enter Try.func16, Try.ntmps16
  go_wp2_with fail
  refine (CL.out).mono ?_; rintro e w1 ⟨v, rfl, ho, hk⟩
  obtain ⟨A1, c1, rfl, _, _⟩ := ho.cap
  rw [List.length_nil]
  have HK := Lib.hid hk
  clear ho hk
  go_wp2_with fail
  go_loopw [3, 11] (fun s i wr => i = .int .i64 0 ∧ s = .int .i64 1 ∧ wr = w1) (fun _ i _ => 0)
  case atStart => exact ⟨rfl, rfl, rfl⟩
  case round =>
    obtain ⟨rfl, rfl, rfl⟩ := hrel
    go_wp2_with fail
    go_ret
    exact ⟨1, rfl, ⟨.inl rfl, rfl⟩, HK.out⟩
theorem Sign_any (A : Option Addr) (l : List Int) (n c : Nat) (w : World) (hl : Lies w A l) (hn : l.length = n) (h1 : n ≤ 1000) :
    Calls Try.prog 16 #[.slice A n c] w fun e w' => Signed (Mx.sp n fun i => l.getD i 0) w e w' := by
  by_cases h0 : n = 0
  · subst h0; exact Sign_zero A c w
  · exact Sign_pos A l n c w hl hn (by omega) h1

end Go.Proofs.Ytkebjmapdcbnaaa
