/- Contracts of the document's Band and Full. -/
import Derived.Test.YtbmkkcpdlakgbaaDoorBdC1
import Derived.Test.YtbmkkcpdlakgbaaDoorMxRef
namespace Go.Proofs.YtbmkkcpdlakgbaaDoor
open Go.ChangeShapes Go.WideShapes Go.ChangeAt Go.RowKit
set_option linter.unusedVariables false

theorem rBand_none (A B C : Option Addr) (L M N : List Int) (c d f : Nat) (w : World) (h : L.length = 0) :
    Calls Tryd.prog 4 #[.slice A L.length c, .slice B M.length d, .slice C N.length f] w fun e w' => e = .returned (.int .i64 (bcode L M N : Int)) ∧ w = w' := by
  rw [bcode_none h, h]
  generalize M.length = q at *
  generalize N.length = p at *
  clear h
  go_enter Tryd.func4, Tryd.ntmps4
  go_wp2
  go_ret
  exact ⟨rfl, rfl⟩
theorem rBand_full (A B C : Option Addr) (L M N : List Int) (c d f : Nat) (w : World) (h : 10 < L.length) :
    Calls Tryd.prog 4 #[.slice A L.length c, .slice B M.length d, .slice C N.length f] w fun e w' => e = .returned (.int .i64 (bcode L M N : Int)) ∧ w = w' := by
  rw [bcode_full h]
  generalize L.length = n at *
  generalize M.length = q at *
  generalize N.length = p at *
  have h' : (10 : Int) < n := by omega
  have h0 : ((n : Int) == 0) = false := by rw [beq_eq_false_iff_ne]; omega
  clear h
  go_enter Tryd.func4, Tryd.ntmps4
  go_wp2
  go_ret
  exact ⟨rfl, rfl⟩
theorem rBand_shape (A B C : Option Addr) (L M N : List Int) (c d f : Nat) (w : World) (h0 : L.length ≠ 0) (h : ¬ 10 < L.length) (h1 : M.length + 1 ≠ L.length ∨ N.length + 1 ≠ L.length) :
    Calls Tryd.prog 4 #[.slice A L.length c, .slice B M.length d, .slice C N.length f] w fun e w' => e = .returned (.int .i64 (bcode L M N : Int)) ∧ w = w' := by
  rw [bcode_shape h0 h h1]
  obtain ⟨n, hn⟩ : ∃ n, L.length = n + 1 := ⟨L.length - 1, by omega⟩
  rw [hn] at h0 h h1 ⊢
  generalize M.length = q at *
  generalize N.length = p at *
  have h' : ¬ (10 : Int) < ((n + 1 : Nat) : Int) := by omega
  have e0 : (((n + 1 : Nat) : Int) == 0) = false := by rw [beq_eq_false_iff_ne]; omega
  have e9 : ((n + 1 : Nat) : Int) - 1 = (n : Int) := by omega
  clear h h0 hn
  by_cases hq : q = n
  · subst hq
    have e1 : ((q : Int) != (q : Int)) = false := by simp
    have e2 : ((p : Int) != (q : Int)) = true := by rw [bne_iff_ne]; omega
    clear h1
    generalize ((q + 1 : Nat) : Int) = z at *
    go_enter Tryd.func4, Tryd.ntmps4
    go_wp2
    go_ret
    exact ⟨rfl, rfl⟩
  · have e1 : ((q : Int) != (n : Int)) = true := by rw [bne_iff_ne]; omega
    clear h1 hq
    go_enter Tryd.func4, Tryd.ntmps4
    go_wp2
    go_ret
    exact ⟨rfl, rfl⟩
theorem rb_told {P : Prop} {e : Ending} {b : Bool} (h : Tells P e) (hb : b = true ↔ P) : e = .returned (.bool b) := by
  by_cases hp : P
  · rw [tells_yes h hp, hb.2 hp]
  · rw [tells_no h hp]
    cases b
    · rfl
    · exact absurd (hb.1 rfl) hp
set_option maxHeartbeats 1600000 in
theorem rBand_main (A B C : Option Addr) (L M N : List Int) (q c d f : Nat) (w : World) (ha : Lies w A L) (hb : Lies w B M) (hc : Lies w C N) (hl : L.length = q + 1) (hm : M.length = q) (hn : N.length = q) (hq : q ≤ 9) :
    Calls Tryd.prog 4 #[.slice A (q + 1) c, .slice B q d, .slice C q f] w fun e w' => e = .returned (.int .i64 (bcode L M N : Int)) ∧ w = w' := by
  have E1 : ∀ b : Bool, (b = true ↔ AllIn L 0 9972) → Calls Tryd.prog 10 #[.slice A (q + 1) c, .int .i64 0, .int .i64 9972] w fun e w' => e = .returned (.bool b) ∧ w = w' := fun b hb => by
    have := all_any A L c 0 9972 w ha (by omega)
    rw [hl] at this
    exact this.mono fun e w' ⟨h1, h2⟩ => ⟨rb_told h1 hb, h2⟩
  have E2 : ∀ b : Bool, (b = true ↔ AllIn M 0 9972) → Calls Tryd.prog 10 #[.slice B q d, .int .i64 0, .int .i64 9972] w fun e w' => e = .returned (.bool b) ∧ w = w' := fun b h => by
    have := all_any B M d 0 9972 w hb (by omega)
    rw [hm] at this
    exact this.mono fun e w' ⟨h1, h2⟩ => ⟨rb_told h1 h, h2⟩
  have E3 : ∀ b : Bool, (b = true ↔ AllIn N 0 9972) → Calls Tryd.prog 10 #[.slice C q f, .int .i64 0, .int .i64 9972] w fun e w' => e = .returned (.bool b) ∧ w = w' := fun b h => by
    have := all_any C N f 0 9972 w hc (by omega)
    rw [hn] at this
    exact this.mono fun e w' ⟨h1, h2⟩ => ⟨rb_told h1 h, h2⟩
  have RNG : ¬ (AllIn L 0 9972 ∧ AllIn M 0 9972 ∧ AllIn N 0 9972) → bcode L M N = 1 := bcode_range (by omega) (by omega) (by omega) (by omega)
  have GOOD := bcode_ok (M := L) (A := M) (B := N) (by omega) (by omega) (by omega) (by omega)
  obtain ⟨v, hv⟩ : ∃ v, v = bcode L M N := ⟨_, rfl⟩
  rw [← hv] at RNG GOOD ⊢
  clear hv ha hb hc hl hm hn
  have h10 : ¬ (10 : Int) < ((q + 1 : Nat) : Int) := by omega
  have e0 : (((q + 1 : Nat) : Int) == 0) = false := by rw [beq_eq_false_iff_ne]; omega
  have e9 : ((q + 1 : Nat) : Int) - 1 = (q : Int) := by omega
  have e1 : ((q : Int) != (q : Int)) = false := by simp
  by_cases h1 : AllIn L 0 9972
  · have E1 := Lib.hid (E1 true ⟨fun _ => h1, fun _ => rfl⟩)
    by_cases h2 : AllIn M 0 9972
    · have E2 := Lib.hid (E2 true ⟨fun _ => h2, fun _ => rfl⟩)
      by_cases h3 : AllIn N 0 9972
      · have E3 := Lib.hid (E3 true ⟨fun _ => h3, fun _ => rfl⟩)
        have R := Lib.hid (GOOD h1 h2 h3)
        clear h1 h2 h3 RNG GOOD
        generalize q + 1 = n at *
        go_enter Tryd.func4, Tryd.ntmps4
        go_wp2_with fail
        refine (E1.out).mono ?_; rintro e w' ⟨rfl, rfl⟩
        go_wp2_with fail
        refine (E2.out).mono ?_; rintro e w' ⟨rfl, rfl⟩
        go_wp2_with fail
        refine (E3.out).mono ?_; rintro e w' ⟨rfl, rfl⟩
        go_wp2_with fail
        go_ret
        exact ⟨by rw [R.out]; rfl, rfl⟩
      · have E3 := Lib.hid (E3 false ⟨fun h => (by cases h), fun h => absurd h h3⟩)
        have R := Lib.hid (RNG fun h => h3 h.2.2)
        clear h1 h2 h3 RNG GOOD
        generalize q + 1 = n at *
        go_enter Tryd.func4, Tryd.ntmps4
        go_wp2_with fail
        refine (E1.out).mono ?_; rintro e w' ⟨rfl, rfl⟩
        go_wp2_with fail
        refine (E2.out).mono ?_; rintro e w' ⟨rfl, rfl⟩
        go_wp2_with fail
        refine (E3.out).mono ?_; rintro e w' ⟨rfl, rfl⟩
        go_wp2_with fail
        go_ret
        exact ⟨by rw [R.out]; rfl, rfl⟩
    · have E2 := Lib.hid (E2 false ⟨fun h => (by cases h), fun h => absurd h h2⟩)
      have R := Lib.hid (RNG fun h => h2 h.2.1)
      clear h1 h2 RNG GOOD E3
      generalize q + 1 = n at *
      go_enter Tryd.func4, Tryd.ntmps4
      go_wp2_with fail
      refine (E1.out).mono ?_; rintro e w' ⟨rfl, rfl⟩
      go_wp2_with fail
      refine (E2.out).mono ?_; rintro e w' ⟨rfl, rfl⟩
      go_wp2_with fail
      go_ret
      exact ⟨by rw [R.out]; rfl, rfl⟩
  · have E1 := Lib.hid (E1 false ⟨fun h => (by cases h), fun h => absurd h h1⟩)
    have R := Lib.hid (RNG fun h => h1 h.1)
    clear h1 RNG GOOD E2 E3
    generalize q + 1 = n at *
    go_enter Tryd.func4, Tryd.ntmps4
    go_wp2_with fail
    refine (E1.out).mono ?_; rintro e w' ⟨rfl, rfl⟩
    go_wp2_with fail
    go_ret
    exact ⟨by rw [R.out]; rfl, rfl⟩

theorem rBand_any (A B C : Option Addr) (L M N : List Int) (c d f : Nat) (w : World) (ha : Lies w A L) (hb : Lies w B M) (hc : Lies w C N) :
    Calls Tryd.prog 4 #[.slice A L.length c, .slice B M.length d, .slice C N.length f] w fun e w' => e = .returned (.int .i64 (bcode L M N : Int)) ∧ w = w' := by
  by_cases h0 : L.length = 0
  · exact rBand_none A B C L M N c d f w h0
  · by_cases h1 : 10 < L.length
    · exact rBand_full A B C L M N c d f w h1
    · by_cases h2 : M.length + 1 ≠ L.length ∨ N.length + 1 ≠ L.length
      · exact rBand_shape A B C L M N c d f w h0 h1 h2
      · have e2 : N.length = M.length := by omega
        have := rBand_main A B C L M N M.length c d f w ha hb hc (by omega) rfl e2 (by omega)
        rw [e2, show L.length = M.length + 1 by omega]
        exact this


end Go.Proofs.YtbmkkcpdlakgbaaDoor
