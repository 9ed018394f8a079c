/- Contracts of package paths, fifth part: families of any width, Apart. -/
import Derived.Test.YtolkdbijenbchaaDoorPhC4
namespace Go.Proofs.YtolkdbijenbchaaDoor
open Go.ChangeShapes Go.WideShapes Go.ChangeAt Go.RowKit
set_option linter.unusedVariables false

theorem fam_any (t u v : Nat) (st : Zx.H3 [t, u, v]) : ∀ (wd : Nat), wd ≤ 4 → ∀ (a b c : Nat), Zx.H3 [a, b, c] → ∀ w : World,
    Calls Tryd.prog 17 #[.int .i64 (wd : Int), hv a b c, hv t u v] w fun e w' => e = .returned (.int .i64 (Zx.fam [t, u, v] wd [a, b, c])) ∧ Kp w w'
  | 0, _, a, b, c, sh, w => fam_round 0 (by decide) t u v st (fun m => if m = [t, u, v] then 1 else 0) (fun m _ => by
      show 0 ≤ (if m = [t, u, v] then (1 : Int) else 0) ∧ (if m = [t, u, v] then (1 : Int) else 0) ≤ 1000000000000
      split <;> decide) (fun _ m => rfl) (fun h => absurd h (by decide)) a b c sh w
  | wd + 1, hw, a, b, c, sh, w => by
    have h := fam_round (wd + 1) hw t u v st (Zx.fam [t, u, v] wd) (fun m hm => by
      have h1 := Zx.fam_bound st wd hm
      have h2 : (1000 : Int) ^ (wd + 1) ≤ 1000000000000 := by
        rcases (show wd = 0 ∨ wd = 1 ∨ wd = 2 ∨ wd = 3 by omega) with rfl | rfl | rfl | rfl <;> decide
      omega) (fun h => absurd h (by omega)) (fun _ x y z w hx => by
      have := fam_any t u v st wd (by omega) x y z hx w
      rw [show ((wd + 1 : Nat) : Int) - 1 = (wd : Int) by omega]
      exact this) a b c sh w
    exact h

theorem Apart_no (wd : Int) (A B : Option Addr) (l m : List Int) (n q c d : Nat) (w : World) (ha : Lies w A l) (hb : Lies w B m) (hn : l.length = n) (hq : m.length = q) (h : phcd wd l m ≠ 0) :
    Calls Tryd.prog 9 #[.int .i64 wd, .slice A n c, .slice B q d] w fun e w' => e = .returned (.tuple #[.int .i64 0, errOf (phcd wd l m)]) ∧ w = w' := by
  have CK := Lib.hid (PChk_any wd A B l m n q c d w ha hb hn hq)
  rw [errOf_ne _ h] at CK ⊢
  generalize phcd wd l m = z at *
  clear ha hb h hn hq
  go_enter Tryd.func9, Tryd.ntmps9
  go_wp2_with fail
  refine (CK.out).mono ?_; rintro e w' ⟨rfl, rfl⟩
  go_wp2_with fail
  go_ret2
  exact ⟨rfl, rfl⟩

set_option maxHeartbeats 800000 in
theorem Apart_ok (wd : Nat) (x y : List Nat) (l m : List Int) (s : Ph wd x y l m) (A B : Option Addr) (n q c d : Nat) (w : World) (ha : Lies w A l) (hb : Lies w B m) (hn : l.length = n) (hq : m.length = q) :
    Calls Tryd.prog 9 #[.int .i64 (wd : Int), .slice A n c, .slice B q d] w fun e w' => e = .returned (.tuple #[.int .i64 (Zx.ap wd x y), .nilIface]) ∧ Kp w w' := by
  have CK := Lib.hid (show Calls Tryd.prog 7 #[.int .i64 (wd : Int), .slice A n c, .slice B q d] w fun e w' => e = .returned .nilIface ∧ w = w' by
    have := PChk_any wd A B l m n q c d w ha hb hn hq
    rwa [s.code, errOf_zero] at this)
  have lx : x.length = n := by rw [← hn, s.la, nz_len]
  have ly : y.length = q := by rw [← hq, s.lb, nz_len]
  have sx := Zx.pad_h3 s.ra s.a1 s.a3
  have sy := Zx.pad_h3 s.rb (by rw [s.len]; exact s.a1) (by rw [s.len]; exact s.a3)
  have n1 : 1 ≤ n := by rw [← lx]; exact s.a1
  have n3 : n ≤ 3 := by rw [← lx]; exact s.a3
  have eq : q = n := by rw [← ly, s.len, lx]
  obtain ⟨a0, a1, a2, ea⟩ := h3_three sx
  obtain ⟨b0, b1, b2, eb⟩ := h3_three sy
  have FA := Lib.hid (full_any A x n c w (by rw [← s.la]; exact ha) lx n1 n3 a0 a1 a2 ea)
  have FB := Lib.hid (fun w' (k : Kp w w') => full_any B y q d w' (by rw [← s.lb]; exact hb.keep k) ly (by omega) (by omega) b0 b1 b2 eb)
  have e := Zx.fam_pad wd s.a1 s.a3 s.rb s.len
  rw [ea, eb] at e
  rw [ea] at sx
  rw [eb] at sy
  have FM := Lib.hid (fun w' => fam_any b0 b1 b2 sy wd s.w4 a0 a1 a2 sx w')
  rw [e] at FM
  generalize Zx.ap wd x y = z at *
  clear ha hb hn hq lx ly sx sy n1 n3 eq ea eb e s
  go_enter Tryd.func9, Tryd.ntmps9
  go_wp2_with fail
  refine (CK.out).mono ?_; rintro e w' ⟨rfl, rfl⟩
  go_wp2_with fail
  refine (FA.out).mono ?_; rintro e w1 ⟨rfl, k1⟩
  go_wp2_with fail
  refine (FB.out w1 k1).mono ?_; rintro e w2 ⟨rfl, k2⟩
  go_wp2_with fail
  refine (FM.out w2).mono ?_; rintro e w3 ⟨rfl, k3⟩
  have K3 := Lib.hid ((k1.trans k2).trans k3)
  clear k1 k2 k3
  go_wp2_with fail
  go_ret2
  exact ⟨rfl, K3.out⟩
end Go.Proofs.YtolkdbijenbchaaDoor
