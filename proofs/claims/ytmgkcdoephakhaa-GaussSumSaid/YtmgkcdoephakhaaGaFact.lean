/- What gauss says of whatever comes in; how ranks stand to one another; the closed fact of gauss, outright. -/
import Derived.Test.YtmgkcdoephakhaaGaC3
import Derived.Test.YtmgkcdoephakhaaMtFact
namespace Go.Proofs.Ytmgkcdoephakhaa
open Go.ChangeShapes Go.WideShapes Go.ChangeAt Go.RowKit
set_option linter.unusedVariables false

theorem Stair.thru {r c : Nat} {f : Nat → Nat → Fp.F} {b : List Nat} {g : Nat → Nat → Fp.F} (s : Stair r c c f b g) : Mx.Thru r c b.length f := s.steps.thru s.req
theorem Stair.sees {r c : Nat} {f : Nat → Nat → Fp.F} {b : List Nat} {g : Nat → Nat → Fp.F} (s : Stair r c c f b g) : Mx.Sees r c b.length f := s.steps.sees s.req
theorem Stair.le {r c k : Nat} {f : Nat → Nat → Fp.F} {b : List Nat} {g : Nat → Nat → Fp.F} (s : Stair r c k f b g) : b.length ≤ r := s.steps.le
theorem rank_flip {r c : Nat} {f : Nat → Nat → Fp.F} {b d : List Nat} {g h : Nat → Nat → Fp.F} (s : Stair r c c f b g) (t : Stair c r r (Mx.flip f) d h) : d.length = b.length :=
  Nat.le_antisymm (Mx.sees_thru t.sees s.thru.flip) (Mx.sees_thru s.sees.flip t.thru)
theorem rank_mul {r q c : Nat} {f f' : Nat → Nat → Fp.F} {b1 b2 b3 : List Nat} {g1 g2 g3 : Nat → Nat → Fp.F} (s1 : Stair r q q f b1 g1) (s2 : Stair q c c f' b2 g2) (s3 : Stair r c c (Mx.mul q f f') b3 g3) :
    b3.length ≤ b1.length ∧ b3.length ≤ b2.length ∧ b1.length + b2.length ≤ b3.length + q :=
  ⟨Mx.sees_thru s3.sees (s1.thru.mul_left f'), Mx.sees_thru s3.sees (s2.thru.mul_right f), Mx.sylvester s1.sees s2.sees s3.thru⟩
theorem rank_plus {r c : Nat} {f f' : Nat → Nat → Fp.F} {b1 b2 b3 : List Nat} {g1 g2 g3 : Nat → Nat → Fp.F} (s1 : Stair r c c f b1 g1) (s2 : Stair r c c f' b2 g2) (s3 : Stair r c c (Mx.plus f f') b3 g3) :
    b3.length ≤ b1.length + b2.length ∧ b1.length ≤ b3.length + b2.length ∧ b2.length ≤ b3.length + b1.length := by
  refine ⟨Mx.sees_thru s3.sees (s1.thru.plus s2.thru), Mx.sees_thru s1.sees ?_, Mx.sees_thru s2.sees ?_⟩
  · refine (s3.thru.plus s2.thru.neg).eqm fun i j _ _ => ?_
    show f i j = (f i j + f' i j) + -(f' i j)
    grind
  · refine (s3.thru.plus s1.thru.neg).eqm fun i j _ _ => ?_
    show f' i j = (f i j + f' i j) + -(f i j)
    grind

def fg : Nat → Nat → Fp.F := f22 0 2 0 4
theorem fg1 : Mx.tab 2 2 (n22 0 2 0 4) = Mx.matl 2 2 fg := by decide +kernel
theorem fg_inv : Fp.inv (fg 0 1) = 4987 := (inv_unique (by decide) (by decide)).symm
theorem fg_next : Mx.matl 2 2 (Mx.nxt 0 0 1 fg) = Mx.tab 2 2 (n22 0 1 0 0) := by
  have e : Mx.matl 2 2 (Mx.nxt 0 0 1 fg) = Mx.matl 2 2 (fun i j => if i = 0 then fg 0 j * 4987 else fg (Mx.swp 0 0 i) j - fg (Mx.swp 0 0 i) 1 * (fg 0 j * 4987)) := Mx.matl_ext fun i j _ _ => by
    unfold Mx.nxt; rw [fg_inv]
  rw [e]; decide +kernel
theorem fg_stair : Stair 2 2 2 fg [1] (Mx.nxt 0 0 1 fg) := by
  have h1 := (Stair.start 2 2 fg).skip fun i _ hi => by
    have : i = 0 ∨ i = 1 := by omega
    rcases this with rfl | rfl <;> decide
  exact h1.next (a := 0) (by decide) (by decide) (by decide)

set_option maxRecDepth 100000 in
set_option maxHeartbeats 1600000 in
theorem gaussFact_any (w : World) : Calls Try.prog 6 #[] w fun e w' => e = .returned (.bool true) ∧ Kp w w' := by
  have A1 : LiesM (lit22 w w.heap.size 0 2 0 4) (some ⟨w.heap.size + 1 + 1, 0, none⟩) (Mx.matl 2 2 fg) := by
    rw [← fg1]; exact lit22_lies w _ 0 2 0 4 rfl
  have A1 := Lib.hid A1
  go_enter Try.func6, Try.ntmps6
  go_wp2_with fail
  refine (Steps_ok (some ⟨w.heap.size + 1 + 1, 0, none⟩) fg 2 2 2 (lit22 w w.heap.size 0 2 0 4) A1.out (by decide) (by decide) (by decide) (by decide)).mono ?_
  rintro e w1 ⟨b, g, A2, c2, A3, c3, hs, rfl, l1, l2, k1⟩
  obtain ⟨rfl, hg⟩ := hs.one fg_stair
  rw [hg.mat, fg_next] at l1
  have L1 := Lib.hid l1
  have L2 := Lib.hid l2
  have K1 := Lib.hid ((lit22_kp w w.heap.size 0 2 0 4).trans k1)
  clear l1 l2 k1 hs hg
  go_wp2_with fail
  refine (rows_eq A2 (some ⟨w1.heap.size + 1 + 1, 0, none⟩) (Mx.tab 2 2 (n22 0 1 0 0)) (Mx.tab 2 2 (n22 0 1 0 0)) 2 2 c2 2 (lit22 w1 w1.heap.size 0 1 0 0) (L1.out.keep (lit22_kp _ _ _ _ _ _)) (lit22_lies _ _ _ _ _ _ rfl) (Mx.len_tab _ _ _) (Mx.len_tab _ _ _) (modest_tab _ (by decide) (by decide)) (modest_tab _ (by decide) (by decide)) rfl).mono ?_
  rintro e w3 ⟨rfl, k3⟩
  have K3 := Lib.hid ((lit22_kp w1 w1.heap.size 0 1 0 0).trans k3)
  clear k3
  go_wp2_with fail
  refine (same_eq A3 (some ⟨w3.heap.size, 0, none⟩) (cols [1]) [1] 1 1 c3 1 _ ((L2.out.keep K3.out).keep ((Kp.rfl' _).new _)) (lies_new w3 _ [1]) rfl rfl (by decide) rfl).mono ?_
  rintro e w4 ⟨rfl, k4⟩
  have K4 := Lib.hid (((K1.out.trans K3.out).new _).trans k4)
  clear k4
  go_wp2_with fail
  go_ret
  exact ⟨rfl, K4.out⟩

theorem Rank_or (A : Option Addr) (m : List (List Int)) (n d : Nat) (hn : m.length = n) :
    (∃ r c f, Sh r c f m) ∨ ∀ (w : World), LiesM w A m → Calls Try.prog 7 #[.slice A n d] w fun e w' => ∃ z : Nat, e = .returned (.tuple #[.int .i64 0, .iface 44 (.int .i64 (z : Int))]) ∧ Kp w w' := by
  rcases sh_or m with ⟨_, h⟩ | h
  · exact .inl h
  · exact .inr fun w ha => ((Rank_bad A m n d w ha hn h).mono fun e w' h' => ⟨Mx.mcode 5 0 9972 m, by rw [h'.1, errOf_ne _ h], h'.2⟩)
theorem Rank_sh {A : Option Addr} {m : List (List Int)} {r c : Nat} {f : Nat → Nat → Fp.F} (s : Sh r c f m) (d : Nat) (w : World) (ha : LiesM w A m) :
    Calls Try.prog 7 #[.slice A r d] w fun e w' => GotRank r c f w e w' := by
  rw [s.eq] at ha
  exact Rank_ok A f r c d w ha s.r0 s.r5 s.c0 s.c5
theorem Steps_or (A : Option Addr) (m : List (List Int)) (n d : Nat) (hn : m.length = n) :
    (∃ r c f, Sh r c f m) ∨ ∀ (w : World), LiesM w A m → Calls Try.prog 11 #[.slice A n d] w fun e w' => ∃ z : Nat, e = .returned (.tuple #[.slice none 0 0, .slice none 0 0, .iface 44 (.int .i64 (z : Int))]) ∧ Kp w w' := by
  rcases sh_or m with ⟨_, h⟩ | h
  · exact .inl h
  · exact .inr fun w ha => ((Steps_bad A m n d w ha hn h).mono fun e w' h' => ⟨Mx.mcode 5 0 9972 m, by rw [h'.1, errOf_ne _ h], h'.2⟩)
theorem Steps_sh {A : Option Addr} {m : List (List Int)} {r c : Nat} {f : Nat → Nat → Fp.F} (s : Sh r c f m) (d : Nat) (w : World) (ha : LiesM w A m) :
    Calls Try.prog 11 #[.slice A r d] w fun e w' => GotSteps r c f w e w' := by
  rw [s.eq] at ha
  exact Steps_ok A f r c d w ha s.r0 s.r5 s.c0 s.c5
end Go.Proofs.Ytmgkcdoephakhaa
