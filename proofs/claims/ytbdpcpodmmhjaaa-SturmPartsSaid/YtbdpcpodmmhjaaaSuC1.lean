/- Contracts of package sturm, first part: value, turns, derivative, after. -/
import Derived.Test.YtbdpcpodmmhjaaaRowG
import Derived.Test.YtbdpcpodmmhjaaaSame
import Derived.Test.YtbdpcpodmmhjaaaStS
import Derived.BigQuiet
namespace Go.Proofs.Ytbdpcpodmmhjaaa
open Go.ChangeShapes Go.WideShapes Go.ChangeAt Go.RowKit
set_option linter.unusedVariables false

theorem hv_drop (x : Int) : ∀ (l : List Int) (k : Nat), k < l.length → Stu.hv (l.drop k) x = Stu.hv (l.drop (k + 1)) x * x + l.getD k 0
  | [], k, h => absurd h (by simp)
  | a :: l, 0, _ => rfl
  | a :: l, k + 1, h => by
    rw [List.drop_succ_cons, List.drop_succ_cons, hv_drop x l k (by simpa using h)]
    rfl
theorem hv_end (x : Int) {l : List Int} {k : Nat} (h : l.length ≤ k) : Stu.hv (l.drop k) x = 0 := by
  rw [List.drop_eq_nil_of_le h]; rfl
theorem pow200 : ∀ n : Nat, (1 : Int) ≤ 200 ^ n
  | 0 => by simp
  | n + 1 => by rw [Int.pow_succ]; have := pow200 n; omega
theorem pow200_le {n m : Nat} (h : n ≤ m) : (200 : Int) ^ n ≤ 200 ^ m := by
  obtain ⟨d, rfl⟩ : ∃ d, m = n + d := ⟨m - n, by omega⟩
  rw [Int.pow_add]
  have := Int.mul_le_mul_of_nonneg_left (pow200 d) (show (0 : Int) ≤ 200 ^ n by have := pow200 n; omega)
  omega
theorem bn_at {l : List Int} {B : Int} (h : Stu.Bn B l) {k : Nat} (hk : k < l.length) : -B ≤ l.getD k 0 ∧ l.getD k 0 ≤ B := by
  refine h _ ?_
  rw [List.getD_eq_getElem?_getD, List.getElem?_eq_getElem hk]
  exact List.getElem_mem hk
/-- How large a value is. -/
theorem hv_bd {x B : Int} (hx : -100 ≤ x ∧ x ≤ 100) (hB : 0 ≤ B) : ∀ (l : List Int), Stu.Bn B l → -(B * 200 ^ l.length) ≤ Stu.hv l x * 2 ∧ Stu.hv l x * 2 ≤ B * 200 ^ l.length
  | [], _ => by
    show -(B * 200 ^ 0) ≤ 0 * 2 ∧ 0 * 2 ≤ B * 200 ^ 0
    rw [Int.pow_zero]; omega
  | a :: l, h => by
    obtain ⟨h1, h2⟩ := hv_bd hx hB l fun z hz => h z (List.mem_cons_of_mem _ hz)
    have ha := h a (by simp)
    show -(B * 200 ^ (l.length + 1)) ≤ (Stu.hv l x * x + a) * 2 ∧ (Stu.hv l x * x + a) * 2 ≤ B * 200 ^ (l.length + 1)
    rw [Int.pow_succ]
    have p := pow200 l.length
    have q := Int.mul_le_mul_of_nonneg_left p hB
    rw [show B * (200 ^ l.length * 200) = B * 200 ^ l.length * 200 by rw [Int.mul_assoc]]
    generalize B * 200 ^ l.length = M at *
    generalize Stu.hv l x = v at *
    obtain ⟨x1, x2⟩ := hx
    have m := Stu.prod_bd (a := v * 2) (b := x) (X := M) (Y := 100) ⟨h1, h2⟩ ⟨x1, x2⟩
    rw [show (v * x + a) * 2 = v * 2 * x + a * 2 by grind]
    generalize v * 2 * x = u at *
    omega
theorem hv_step {x B : Int} (hx : -100 ≤ x ∧ x ≤ 100) (hB : 0 ≤ B) (l : List Int) (h : Stu.Bn B l) (k : Nat) (hk : k < l.length) (hS : B * 200 ^ l.length ≤ 4000000000000000000) :
    IntKind.i64.wrap (Stu.hv (l.drop (k + 1)) x * x) = Stu.hv (l.drop (k + 1)) x * x ∧ IntKind.i64.wrap (Stu.hv (l.drop (k + 1)) x * x + l.getD k 0) = Stu.hv (l.drop k) x := by
  have b := fun j : Nat => hv_bd hx hB (l.drop j) fun z hz => h z (List.mem_of_mem_drop hz)
  have b0 := b (k + 1)
  have b1 := b k
  have e := hv_drop x l k hk
  have a := bn_at h hk
  have mono : ∀ j : Nat, B * 200 ^ (l.drop j).length ≤ B * 200 ^ l.length := fun j => by
    refine Int.mul_le_mul_of_nonneg_left ?_ hB
    rw [List.length_drop]
    exact pow200_le (by omega)
  have m0 := mono (k + 1)
  have m1 := mono k
  have p := pow200 l.length
  have q := Int.mul_le_mul_of_nonneg_left p hB
  rw [← e]
  generalize l.getD k 0 = c at *
  generalize Stu.hv (l.drop (k + 1)) x * x = u at *
  generalize Stu.hv (l.drop k) x = v at *
  exact ⟨IntWalk.i64_in _ (by omega), IntWalk.i64_in _ (by omega)⟩

set_option maxHeartbeats 800000 in
theorem uval_any (A : Option Addr) (l : List Int) (n c : Nat) (x : Int) (w : World) (hl : Lies w A l) (hn : l.length = n) (sz : Stu.Sz l) (hx : -100 ≤ x ∧ x ≤ 100) :
    Calls Try.prog 34 #[.slice A n c, .int .i64 x] w fun e w' => e = .returned (.int .i64 (Stu.hv l x)) ∧ w = w' := by
  obtain ⟨h4, B, hB, hb, hS⟩ := sz
  have HL := Lib.hid hl
  have HN := Lib.hid hn
  have ST := Lib.hid (fun k hk => hv_step hx hB l hb k hk hS)
  have END := Lib.hid (show Stu.hv (l.drop n) x = 0 from hv_end x (by omega))
  have n4 : n ≤ 4 := by omega
  clear hl hn hb hS h4 hx
  go_enter Try.func34, Try.ntmps34
  go_wp2_with fail
  go_loop [5, 6] (fun s i => ∃ (k : Nat) (j z : Int), k ≤ n ∧ j + 1 = (k : Int) ∧ i = .int .i64 j ∧ s = .int .i64 z ∧ z = Stu.hv (l.drop k) x) (fun _ i => (intOf i + 1).toNat)
  case atStart => exact ⟨n, _, _, Nat.le_refl _, by omega, rfl, rfl, END.out.symm⟩
  case round =>
    obtain ⟨k, j, z, hk, hj, rfl, rfl, hz⟩ := hrel
    cases k with
    | zero =>
      have jn : ¬ 0 ≤ j := by omega
      have E := Lib.hid (show z = Stu.hv l x by rw [hz]; rfl)
      clear hz hj
      go_wp2_with fail
      go_ret
      exact ⟨by rw [E.out]; rfl, rfl⟩
    | succ k =>
      obtain rfl : j = (k : Int) := by omega
      obtain ⟨ad, rfl, _, x1⟩ := HL.out k (by have := HN.out; omega)
      obtain ⟨w1, w2⟩ := ST.out k (by have := HN.out; omega)
      rw [← hz] at w1 w2
      generalize l.getD k 0 = a at *
      have W2 := Lib.hid w2
      obtain ⟨u, hu⟩ : ∃ u, u = IntKind.i64.wrap (z * x + a) := ⟨_, rfl⟩
      have hu' := hu.symm
      rw [← hu] at w2
      have U := Lib.hid w2
      clear hz hj hu w2
      go_wp2_with fail
      go_round
      case rel => exact ⟨k, _, _, by omega, by omega, rfl, rfl, U.out⟩
      case measure => simp [intOf]

theorem sgz_z : Stu.sgz 0 = 0 := rfl
theorem sgz_p {z : Int} (h : 0 < z) : Stu.sgz z = 1 := if_pos h
theorem sgz_n {z : Int} (h : z < 0) : Stu.sgz z = -1 := by unfold Stu.sgz; rw [if_neg (by omega), if_pos h]
/-- Turns behind a last number that is not 0, or behind none. -/
theorem tr_step {z m : Int} (hm : m ≠ 0) (L : List Int) : Stu.tr (Stu.sgz z) (Stu.sgz m :: L) = (if z ≠ 0 ∧ (m < 0 ↔ ¬ z < 0) then 1 else 0) + Stu.tr (Stu.sgz m) L := by
  have h1 : Stu.sgz m ≠ 0 := by unfold Stu.sgz; split <;> (try split) <;> omega
  rw [Stu.tr_cons _ _ h1]
  congr 1
  rcases Stu.sgz_some z with ⟨a, b⟩ | ⟨a, b⟩ | ⟨a, b⟩ <;> rcases Stu.sgz_some m with ⟨c, d⟩ | ⟨c, d⟩ | ⟨c, d⟩ <;> rw [a, c] <;> first | (exfalso; omega) | (rw [if_pos (by omega), if_pos (by omega)]) | (rw [if_neg (by omega), if_neg (by omega)])
theorem map_drop {l : List Int} {k : Nat} (h : k < l.length) : (l.drop k).map Stu.sgz = Stu.sgz (l.getD k 0) :: (l.drop (k + 1)).map Stu.sgz := by
  rw [← List.map_cons]
  congr 1
  rw [List.getD_eq_getElem?_getD, List.getElem?_eq_getElem h]
  exact List.drop_eq_getElem_cons h

set_option maxHeartbeats 1600000 in
theorem uturns_any (A : Option Addr) (l : List Int) (n c : Nat) (w : World) (hl : Lies w A l) (hn : l.length = n) (hb : n ≤ 1000000) :
    Calls Try.prog 23 #[.slice A n c] w fun e w' => e = .returned (.int .i64 ((Stu.trn l : Nat) : Int)) ∧ w = w' := by
  have HL := Lib.hid hl
  have HN := Lib.hid hn
  obtain ⟨T, hT⟩ : ∃ T, T = Stu.trn l := ⟨_, rfl⟩
  rw [← hT]
  have HT := Lib.hid hT
  clear hl hn hT
  go_enter Try.func23, Try.ntmps23
  go_wp2_with fail
  go_loop [3, 4, 9] (fun s v i => ∃ (k q : Nat) (z : Int), k ≤ n ∧ q ≤ k ∧ i = .int .i64 (k : Int) ∧ s = .int .i64 (q : Int) ∧ v = .int .i64 z ∧ T = q + Stu.tr (Stu.sgz z) ((l.drop k).map Stu.sgz)) (fun _ _ i => n - (intOf i).toNat)
  case atStart => exact ⟨0, 0, 0, Nat.zero_le _, Nat.le_refl _, rfl, rfl, rfl, by rw [HT.out, Nat.zero_add]; rfl⟩
  case round =>
    obtain ⟨k, q, z, hk, hq, rfl, rfl, rfl, ht⟩ := hrel
    have HQ := Lib.hid ht
    clear ht
    by_cases hlt : k < n
    · obtain ⟨ad, rfl, _, x1⟩ := HL.out k (by have := HN.out; omega)
      have MD := Lib.hid (map_drop (l := l) (k := k) (by have := HN.out; omega))
      obtain ⟨m, hm⟩ : ∃ m, m = l.getD k 0 := ⟨_, rfl⟩
      rw [← hm] at x1 MD
      clear hm
      by_cases h0 : m = 0
      · subst h0
        have R := Lib.hid (show T = q + Stu.tr (Stu.sgz z) ((l.drop (k + 1)).map Stu.sgz) by rw [HQ.out, MD.out, sgz_z, Stu.tr_nought])
        go_wp2_with fail
        go_round
        case rel => exact ⟨k + 1, q, z, by omega, by omega, by go_num, rfl, rfl, R.out⟩
        case measure => simp [intOf]; omega
      · have e0 : (m == 0) = false := by rw [beq_eq_false_iff_ne]; exact h0
        have R := Lib.hid (show T = (q + if z ≠ 0 ∧ (m < 0 ↔ ¬ z < 0) then 1 else 0) + Stu.tr (Stu.sgz m) ((l.drop (k + 1)).map Stu.sgz) by rw [HQ.out, MD.out, tr_step h0]; omega)
        rcases Int.lt_trichotomy m 0 with h1 | h1 | h1
        rotate_left
        · exact absurd h1 h0
        all_goals
          rcases Int.lt_trichotomy z 0 with h2 | h2 | h2
          rotate_left
          · have R2 := Lib.hid (show T = q + Stu.tr (Stu.sgz m) ((l.drop (k + 1)).map Stu.sgz) by rw [R.out, if_neg (by omega), Nat.add_zero])
            subst h2
            clear h0
            go_wp2_with fail
            go_round
            case rel => exact ⟨k + 1, q, m, by omega, by omega, by go_num, rfl, rfl, R2.out⟩
            case measure => simp [intOf]; omega
          all_goals
            have e2 : ¬ z = 0 := by omega
            first
              | (have hh : z ≠ 0 ∧ (m < 0 ↔ ¬ z < 0) := by omega
                 have R2 := Lib.hid (show T = (q + 1) + Stu.tr (Stu.sgz m) ((l.drop (k + 1)).map Stu.sgz) by rw [R.out, if_pos hh])
                 have m1 : ¬ (m < 0 ∧ z < 0) := by omega
                 by_cases a1 : m < 0
                 · have a2 : ¬ z < 0 := by omega
                   clear h0 h1 h2 hh m1
                   go_wp2_with fail
                   go_round
                   case rel => exact ⟨k + 1, q + 1, m, by omega, by omega, by go_num, by go_num, rfl, R2.out⟩
                   case measure => simp [intOf]; omega
                 · have a2 : z < 0 := by omega
                   clear h0 h1 h2 hh m1
                   go_wp2_with fail
                   go_round
                   case rel => exact ⟨k + 1, q + 1, m, by omega, by omega, by go_num, by go_num, rfl, R2.out⟩
                   case measure => simp [intOf]; omega)
              | (have hh : ¬ (z ≠ 0 ∧ (m < 0 ↔ ¬ z < 0)) := by omega
                 have R2 := Lib.hid (show T = q + Stu.tr (Stu.sgz m) ((l.drop (k + 1)).map Stu.sgz) by rw [R.out, if_neg hh, Nat.add_zero])
                 by_cases a1 : m < 0
                 · have a2 : z < 0 := by omega
                   clear h0 h1 h2 hh
                   go_wp2_with fail
                   go_round
                   case rel => exact ⟨k + 1, q, m, by omega, by omega, by go_num, rfl, rfl, R2.out⟩
                   case measure => simp [intOf]; omega
                 · have a2 : ¬ z < 0 := by omega
                   clear h0 h1 h2 hh
                   go_wp2_with fail
                   go_round
                   case rel => exact ⟨k + 1, q, m, by omega, by omega, by go_num, rfl, rfl, R2.out⟩
                   case measure => simp [intOf]; omega)
    · obtain rfl : k = n := by omega
      have E := Lib.hid (show T = q by rw [HQ.out, List.drop_eq_nil_of_le (by have := HN.out; omega)]; rfl)
      go_wp2_with fail
      go_ret
      exact ⟨by rw [E.out]; rfl, rfl⟩

end Go.Proofs.Ytbdpcpodmmhjaaa
