/- Plain facts on polynomials as rules for their factors: values, what the values tell, and determinants whose numbers go straight with x. No program is named here. -/
import Derived.Test.YtldkamhknaflbaaMatL
import Derived.Test.YtldkamhknaflbaaPolM
namespace Go.Proofs.Ytldkamhknaflbaa.Mx
open Fp
set_option linter.unusedVariables false

/-- The value at x, of the factors up to that of x to the power d. -/
def vx (d : Nat) (c : Nat → F) (x : F) : F := sg (d + 1) fun k => c k * pw x k
theorem vx_congr {d : Nat} {c e : Nat → F} (h : ∀ k, k ≤ d → c k = e k) (x : F) : vx d c x = vx d e x := sg_congr fun k hk => by rw [h k (by omega)]
theorem vx_zero (c : Nat → F) (x : F) : vx 0 c x = c 0 := by unfold vx; rw [sg_succ, sg_zero, pw_zero]; grind
theorem vx_succ (d : Nat) (c : Nat → F) (x : F) : vx (d + 1) c x = vx d c x + c (d + 1) * pw x (d + 1) := by unfold vx; rw [sg_succ]
theorem vx_add (d : Nat) (c e : Nat → F) (x : F) : vx d c x + vx d e x = vx d (fun k => c k + e k) x := by
  unfold vx; rw [← sg_add]; exact sg_congr fun k _ => by grind
theorem vx_times (d : Nat) (a : F) (c : Nat → F) (x : F) : a * vx d c x = vx d (fun k => a * c k) x := by
  unfold vx; rw [← sg_times]; exact sg_congr fun k _ => by grind
theorem vx_up {d m : Nat} (h : d ≤ m) (c : Nat → F) (x : F) : vx m (fun k => if k ≤ d then c k else 0) x = vx d c x := by
  unfold vx
  rw [sg_less (n := d + 1) (by omega) fun i h1 h2 => by dsimp only; rw [if_neg (by omega)]; grind]
  exact sg_congr fun k hk => by dsimp only; rw [if_pos (by omega)]
theorem sg_first (n : Nat) (f : Nat → F) : sg (n + 1) f = f 0 + sg n fun i => f (i + 1) := by
  rw [Nat.add_comm n 1, sg_split, sg_succ, sg_zero]
  have : (fun i => f (1 + i)) = fun i => f (i + 1) := funext fun i => by rw [Nat.add_comm]
  rw [this]; grind
/-- x times it. -/
theorem vx_shift (d : Nat) (c : Nat → F) (x : F) : x * vx d c x = vx (d + 1) (fun k => if k = 0 then 0 else c (k - 1)) x := by
  unfold vx
  rw [sg_first (d + 1)]
  dsimp only
  rw [if_pos rfl, ← sg_times]
  have : (sg (d + 1) fun k => x * (c k * pw x k)) = sg (d + 1) fun k => (if k + 1 = 0 then 0 else c (k + 1 - 1)) * pw x (k + 1) := sg_congr fun k _ => by
    rw [if_neg (by omega), pw_succ, show k + 1 - 1 = k from rfl]; grind
  rw [this]; grind
theorem vx_at_zero (d : Nat) (c : Nat → F) : vx d c 0 = c 0 := by
  unfold vx
  rw [sg_first, pw_zero]
  have : (sg d fun i => c (i + 1) * pw 0 (i + 1)) = 0 := by
    rw [sg_congr (g := fun _ => 0) fun i _ => by rw [pw_zero_base _ (by omega)]; grind, sg_none]
  rw [this]; grind
theorem vx_ev (d : Nat) (c : Nat → F) (x : F) : Pol.ev ((List.range (d + 1)).map c) x = vx d c x := by
  induction d with
  | zero => rw [vx_zero]; simp [List.range_succ, Pol.ev_one]
  | succ d ih => rw [List.range_succ, List.map_append, List.map_cons, List.map_nil, Pol.ev_snoc, ih, vx_succ]; simp
/-- The values tell the factors. -/
theorem vx_zeros {d : Nat} (hd : d < 9973) {c : Nat → F} (h : ∀ x, vx d c x = 0) : ∀ k, k ≤ d → c k = 0 := fun k hk =>
  Pol.zero_all ((List.range (d + 1)).map c) (by simp; omega) (fun x => by rw [vx_ev, h]) (c k) (List.mem_map.2 ⟨k, List.mem_range.2 (by omega), rfl⟩)
theorem vx_eq {d : Nat} (hd : d < 9973) {c e : Nat → F} (h : ∀ x, vx d c x = vx d e x) : ∀ k, k ≤ d → c k = e k := fun k hk => by
  have := vx_zeros (c := fun k => c k + (-1) * e k) hd (fun x => by rw [← vx_add, ← vx_times, h]; grind) k hk
  grind

/-- A rule that is a polynomial's. -/
def IsP (d : Nat) (g : F → F) : Prop := ∃ c : Nat → F, ∀ x, g x = vx d c x
theorem IsP.up {d m : Nat} {g : F → F} (h : IsP d g) (hm : d ≤ m) : IsP m g := by
  obtain ⟨c, hc⟩ := h
  exact ⟨_, fun x => by rw [hc, vx_up hm]⟩
theorem IsP.const (a : F) : IsP 0 fun _ => a := ⟨fun _ => a, fun x => by rw [vx_zero]⟩
theorem IsP.add {d : Nat} {g h : F → F} (hg : IsP d g) (hh : IsP d h) : IsP d fun x => g x + h x := by
  obtain ⟨c, hc⟩ := hg
  obtain ⟨e, he⟩ := hh
  exact ⟨_, fun x => by dsimp only; rw [hc, he, vx_add]⟩
theorem IsP.times {d : Nat} {g : F → F} (hg : IsP d g) (a : F) : IsP d fun x => a * g x := by
  obtain ⟨c, hc⟩ := hg
  exact ⟨_, fun x => by dsimp only; rw [hc, vx_times]⟩
theorem IsP.shift {d : Nat} {g : F → F} (hg : IsP d g) : IsP (d + 1) fun x => x * g x := by
  obtain ⟨c, hc⟩ := hg
  exact ⟨_, fun x => by dsimp only; rw [hc, vx_shift]⟩
theorem IsP.line {d : Nat} {g : F → F} (hg : IsP d g) (a b : F) : IsP (d + 1) fun x => (a + b * x) * g x := by
  obtain ⟨c, hc⟩ := ((hg.times a).up (Nat.le_succ d)).add ((hg.times b).shift)
  exact ⟨c, fun x => by rw [← hc]; dsimp only; grind⟩
theorem IsP.sum {d : Nat} {g : Nat → F → F} : ∀ n, (∀ i, i < n → IsP d (g i)) → IsP d fun x => sg n fun i => g i x
  | 0, _ => ⟨fun _ => 0, fun x => by unfold vx; rw [sg_congr (g := fun _ => 0) fun k _ => by grind, sg_none]; rfl⟩
  | n + 1, h => by
    obtain ⟨c, hc⟩ := (IsP.sum n fun i hi => h i (by omega)).add (h n (by omega))
    exact ⟨c, fun x => by rw [← hc]; dsimp only; rw [sg_succ]⟩
/-- A determinant whose numbers go straight with x. -/
theorem IsP.dt : ∀ (n : Nat) (a b : Nat → Nat → F), IsP n fun x => Mx.dt n fun i j => a i j + b i j * x
  | 0, _, _ => IsP.const 1
  | n + 1, a, b => by
    obtain ⟨c, hc⟩ := IsP.sum (d := n + 1) (g := fun j x => sgn j * (a 0 j + b 0 j * x) * Mx.dt n (del j fun i j => a i j + b i j * x)) (n + 1) fun j _ => by
      obtain ⟨c, hc⟩ := ((IsP.dt n (del j a) (del j b)).line (a 0 j) (b 0 j)).times (sgn j)
      exact ⟨c, fun x => by rw [← hc]; show _ = sgn j * ((a 0 j + b 0 j * x) * Mx.dt n (del j fun i j => a i j + b i j * x)); grind⟩
    exact ⟨c, fun x => by rw [← hc]; rfl⟩

end Go.Proofs.Ytldkamhknaflbaa.Mx
