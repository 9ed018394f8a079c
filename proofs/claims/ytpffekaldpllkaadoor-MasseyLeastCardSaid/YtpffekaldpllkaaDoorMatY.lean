/- Plain facts on the fewest factors by which the beginning of a row goes on (Berlekamp, Massey): how many more are needed when the row goes on, and where they are the only ones. No program is named here. -/
import Derived.Test.YtpffekaldpllkaaDoorMatQ
namespace Go.Proofs.YtpffekaldpllkaaDoor.Mx
open Fp
set_option linter.unusedVariables false

/-- The first N numbers of x go on by l factors. -/
def Gn (N l : Nat) (c x : Nat → F) : Prop := ∀ i, l ≤ i → i < N → x i = sg l fun k => c k * x (i - 1 - k)
theorem Gn.less {N M l : Nat} {c x : Nat → F} (h : Gn N l c x) (hm : M ≤ N) : Gn M l c x := fun i h1 h2 => h i h1 (by omega)
theorem Gn.far {N l : Nat} (c x : Nat → F) (h : N ≤ l) : Gn N l c x := fun i h1 h2 => absurd h1 (by omega)
theorem Gn.next {N l : Nat} {c x : Nat → F} (h : Gn N l c x) (hn : l ≤ N → x N = sg l fun k => c k * x (N - 1 - k)) : Gn (N + 1) l c x := fun i h1 h2 => by
  by_cases e : i = N
  · rw [e]; exact hn (by omega)
  · exact h i h1 (by omega)
theorem Gn.congr {N l : Nat} {c x y : Nat → F} (h : Gn N l c x) (e : ∀ i, i < N → x i = y i) : Gn N l c y := fun i h1 h2 => by
  rw [← e i h2, h i h1 h2]
  exact sg_congr fun k hk => by rw [e (i - 1 - k) (by omega)]
theorem Gn.factors {N l : Nat} {c e x : Nat → F} (h : Gn N l c x) (he : ∀ k, k < l → c k = e k) : Gn N l e x := fun i h1 h2 => by
  rw [h i h1 h2]
  exact sg_congr fun k hk => by rw [he k hk]
theorem Goes.gn {n : Nat} {c x : Nat → F} (h : Goes n c x) (N : Nat) : Gn N n c x := fun i h1 _ => h i h1

/-- Where l factors fail at N and m factors do not, they are together more than N. -/
theorem gn_apart {N l m : Nat} {c e x : Nat → F} (hl : l ≤ N) (hc : Gn N l c x) (hf : x N ≠ sg l fun k => c k * x (N - 1 - k)) (he : Gn (N + 1) m e x) : N + 1 ≤ l + m := by
  refine Classical.byContradiction fun hn => hf ?_
  have hm : m ≤ N := by omega
  rw [he N hm (Nat.lt_succ_self N)]
  have e1 : (sg m fun k => e k * x (N - 1 - k)) = sg m fun k => e k * sg l fun t => c t * x (N - 1 - k - 1 - t) := sg_congr fun k hk => by
    rw [← hc (N - 1 - k) (by omega) (by omega)]
  have e2 : (sg l fun k => c k * x (N - 1 - k)) = sg l fun k => c k * sg m fun t => e t * x (N - 1 - k - 1 - t) := sg_congr fun k hk => by
    rw [← he (N - 1 - k) (by omega) (by omega)]
  rw [e1, e2]
  rw [sg_congr (n := m) (g := fun k => sg l fun t => e k * (c t * x (N - 1 - k - 1 - t))) fun k _ => by rw [sg_times],
    sg_congr (n := l) (g := fun k => sg m fun t => c k * (e t * x (N - 1 - k - 1 - t))) fun k _ => by rw [sg_times], sg_swap]
  exact sg_congr fun k _ => sg_congr fun t _ => by rw [show N - 1 - t - 1 - k = N - 1 - k - 1 - t by omega]; grind

/-- What is missing at i. -/
def dsc (l : Nat) (c x : Nat → F) (i : Nat) : F := x i - sg l fun k => c k * x (i - 1 - k)
theorem dsc_zero {l : Nat} {c x : Nat → F} {i : Nat} (h : x i = sg l fun k => c k * x (i - 1 - k)) : dsc l c x i = 0 := by unfold dsc; rw [← h]; grind
theorem dsc_not {l : Nat} {c x : Nat → F} {i : Nat} (h : dsc l c x i = 0) : x i = sg l fun k => c k * x (i - 1 - k) := by unfold dsc at h; grind
/-- The factors mended: a times those of b, s places later, are taken in. -/
def mend (l lb : Nat) (c b : Nat → F) (a : F) (s : Nat) : Nat → F := fun k => (if k < l then c k else 0) + (if k + 1 = s then a else 0) - (if s ≤ k ∧ k < s + lb then a * b (k - s) else 0)
theorem mend_dsc {l lb L s : Nat} (c b : Nat → F) (a : F) (x : Nat → F) (hs : 0 < s) (hl : l ≤ L) (hb : s + lb ≤ L) {i : Nat} (hi : L ≤ i) :
    dsc L (mend l lb c b a s) x i = dsc l c x i - a * dsc lb b x (i - s) := by
  unfold dsc
  have e : (sg L fun k => mend l lb c b a s k * x (i - 1 - k)) = (sg L fun k => (if k < l then c k else 0) * x (i - 1 - k)) + (sg L fun k => (if k + 1 = s then a else 0) * x (i - 1 - k)) + (-1) * sg L fun k => (if s ≤ k ∧ k < s + lb then a * b (k - s) else 0) * x (i - 1 - k) := by
    rw [← sg_times, ← sg_add, ← sg_add]
    exact sg_congr fun k _ => by unfold mend; grind
  have e1 : (sg L fun k => (if k < l then c k else 0) * x (i - 1 - k)) = sg l fun k => c k * x (i - 1 - k) := by
    rw [sg_less (n := l) hl fun k h1 h2 => by rw [if_neg (by omega)]; grind]
    exact sg_congr fun k hk => by rw [if_pos hk]
  have e2 : (sg L fun k => (if k + 1 = s then a else 0) * x (i - 1 - k)) = a * x (i - s) := by
    rw [sg_one (k := s - 1) (by omega) fun k hk hne => by rw [if_neg (by omega)]; grind]
    rw [if_pos (by omega), show i - 1 - (s - 1) = i - s by omega]
  have e3 : (sg L fun k => (if s ≤ k ∧ k < s + lb then a * b (k - s) else 0) * x (i - 1 - k)) = a * sg lb fun k => b k * x (i - s - 1 - k) := by
    obtain ⟨r, rfl⟩ : ∃ r, L = s + (lb + r) := ⟨L - s - lb, by omega⟩
    rw [sg_split, sg_split]
    have z1 : (sg s fun k => (if s ≤ k ∧ k < s + lb then a * b (k - s) else 0) * x (i - 1 - k)) = 0 := by
      rw [sg_congr (g := fun _ => 0) fun k hk => by rw [if_neg (by omega)]; grind, sg_none]
    have z2 : (sg r fun k => (if s ≤ s + (lb + k) ∧ s + (lb + k) < s + lb then a * b (s + (lb + k) - s) else 0) * x (i - 1 - (s + (lb + k)))) = 0 := by
      rw [sg_congr (g := fun _ => 0) fun k hk => by rw [if_neg (by omega)]; grind, sg_none]
    have z3 : (sg lb fun k => (if s ≤ s + k ∧ s + k < s + lb then a * b (s + k - s) else 0) * x (i - 1 - (s + k))) = a * sg lb fun k => b k * x (i - s - 1 - k) := by
      rw [← sg_times]
      exact sg_congr fun k hk => by rw [if_pos (by omega), Nat.add_sub_cancel_left, show i - 1 - (s + k) = i - s - 1 - k by omega]; grind
    rw [z1, z2, z3]; grind
  rw [e, e1, e2, e3]; grind
/-- Mended, they go on one number further. -/
theorem gn_mend {N m l lb L : Nat} {c b x : Nat → F} (hm : m < N) (hc : Gn N l c x) (hb : Gn m lb b x) (hlb : lb ≤ m) (hd : dsc lb b x m ≠ 0) {a : F} (ha : a * dsc lb b x m = dsc l c x N) (hl : l ≤ L) (hL : N - m + lb ≤ L) :
    Gn (N + 1) L (mend l lb c b a (N - m)) x := fun i h1 h2 => by
  refine dsc_not ?_
  rw [mend_dsc c b a x (by omega) hl (by omega) h1]
  by_cases e : i = N
  · rw [e, show N - (N - m) = m by omega, ha]; grind
  · rw [dsc_zero (hc i (by omega) (by omega)), dsc_zero (hb (i - (N - m)) (by omega) (by omega))]; grind

/-- l is the least number of factors for the first N numbers. -/
def Few (N l : Nat) (x : Nat → F) : Prop := (∃ c, Gn N l c x) ∧ ∀ m, m < l → ¬ ∃ c, Gn N m c x
theorem Few.le {N l m : Nat} {x c : Nat → F} (h : Few N l x) (hc : Gn N m c x) : l ≤ m := Classical.byContradiction fun e => h.2 m (by omega) ⟨c, hc⟩
theorem Few.one {N l m : Nat} {x : Nat → F} (h : Few N l x) (k : Few N m x) : l = m := by
  obtain ⟨c, hc⟩ := h.1
  obtain ⟨e, he⟩ := k.1
  have := h.le he
  have := k.le hc
  omega
theorem few_of {N : Nat} {x : Nat → F} : ∀ (n : Nat) {c : Nat → F}, Gn N n c x → ∃ l, l ≤ n ∧ Few N l x := fun n => by
  induction n using Nat.strongRecOn with
  | _ n ih =>
    intro c hc
    by_cases h : ∃ m, m < n ∧ ∃ e, Gn N m e x
    · obtain ⟨m, hm, e, he⟩ := h
      obtain ⟨l, hl, hf⟩ := ih m hm he
      exact ⟨l, by omega, hf⟩
    · exact ⟨n, Nat.le_refl n, ⟨c, hc⟩, fun m hm ⟨e, he⟩ => h ⟨m, hm, e, he⟩⟩
theorem few_some (N : Nat) (x : Nat → F) : ∃ l, l ≤ N ∧ Few N l x := few_of N (Gn.far (fun _ => 0) x (Nat.le_refl N))
theorem Few.top {N l : Nat} {x : Nat → F} (h : Few N l x) : l ≤ N := h.le (Gn.far (fun _ => 0) x (Nat.le_refl N))
theorem Few.up {N M l m : Nat} {x : Nat → F} (h : Few N l x) (k : Few M m x) (hn : N ≤ M) : l ≤ m := by
  obtain ⟨c, hc⟩ := k.1
  exact h.le (hc.less hn)
/-- What the fewest factors came of: the last place where fewer failed. -/
def Came (N l : Nat) (x : Nat → F) : Prop := l = 0 ∨ ∃ (m lb : Nat) (b : Nat → F), m < N ∧ lb ≤ m ∧ Gn m lb b x ∧ dsc lb b x m ≠ 0 ∧ l + lb = m + 1
theorem few_step {N l : Nat} {x : Nat → F} (hf : Few N l x) (hcm : Came N l x) {m : Nat} (hm : Few (N + 1) m x) : (m = l ∨ (l < m ∧ m + l = N + 1)) ∧ Came (N + 1) m x := by
  obtain ⟨c, hc⟩ := hf.1
  have hlm := hf.up hm (Nat.le_succ N)
  have keep : Came N l x → Came (N + 1) l x := fun h => h.elim .inl fun ⟨p, lb, b, h1, h2⟩ => .inr ⟨p, lb, b, by omega, h2⟩
  by_cases hok : x N = sg l fun k => c k * x (N - 1 - k)
  · have hle := hm.le (hc.next fun _ => hok)
    obtain rfl : m = l := by omega
    exact ⟨.inl rfl, keep hcm⟩
  · have htop := hf.top
    obtain ⟨e, he⟩ := hm.1
    have hap := gn_apart htop hc hok he
    have hd : dsc l c x N ≠ 0 := fun h => hok (dsc_not h)
    rcases hcm with rfl | ⟨p, lb, b, hp, hlb, hb, hbd, hsum⟩
    · have htop2 := hm.top
      exact ⟨.inr ⟨by omega, by omega⟩, .inr ⟨N, 0, c, by omega, by omega, hc, hd, by omega⟩⟩
    · have ha : dsc l c x N * Fp.inv (dsc lb b x p) * dsc lb b x p = dsc l c x N := by
        have := Fp.inv_mul hbd
        grind
      have hg := gn_mend (L := if N + 1 - l ≤ l then l else N + 1 - l) hp hc hb hlb hbd ha (by split <;> omega) (by split <;> omega)
      have hle := hm.le hg
      by_cases h2 : N + 1 - l ≤ l
      · rw [if_pos h2] at hle
        obtain rfl : m = l := by omega
        exact ⟨.inl rfl, .inr ⟨p, lb, b, by omega, hlb, hb, hbd, hsum⟩⟩
      · rw [if_neg h2] at hle
        exact ⟨.inr ⟨by omega, by omega⟩, .inr ⟨N, l, c, by omega, htop, hc, hd, by omega⟩⟩
theorem few_came : ∀ (N : Nat) {l : Nat} {x : Nat → F}, Few N l x → Came N l x
  | 0, l, x, h => .inl (by have := h.top; omega)
  | N + 1, l, x, h => by
    obtain ⟨l0, _, h0⟩ := few_some N x
    exact (few_step h0 (few_came N h0) h).2
/-- A longer row needs no fewer; and if it needs more, it needs as many as it has, less those that were enough. -/
theorem few_grows {N l m : Nat} {x : Nat → F} (h : Few N l x) (k : Few (N + 1) m x) : m = l ∨ (l < m ∧ m + l = N + 1) := (few_step h (few_came N h) k).1

/-- Factors that make twice as many numbers make as many as any others that are no more. -/
theorem gn_on {N M n p : Nat} {c e x : Nat → F} (hc : Gn N n c x) (he : Gn M p e x) (h : n + p ≤ N) : Gn M n c x := by
  have : ∀ i, i ≤ M → Gn i n c x := by
    intro i
    induction i with
    | zero => exact fun _ i h1 h2 => absurd h2 (by omega)
    | succ i ih =>
      intro hi
      by_cases hN : i + 1 ≤ N
      · exact hc.less hN
      · refine (ih (by omega)).next fun hni => Classical.byContradiction fun hf => ?_
        have := gn_apart hni (ih (by omega)) hf (he.less hi)
        omega
  exact this M (Nat.le_refl M)
/-- Where they are no more than half, they are the only ones. -/
theorem gn_same {N l : Nat} {c e x : Nat → F} (hf : Few N l x) (hc : Gn N l c x) (he : Gn N l e x) (h2 : l + l ≤ N) : ∀ k, k < l → c k = e k := by
  refine Classical.byContradiction fun hn => ?_
  have hn : ∃ k, k < l ∧ c k ≠ e k := Classical.byContradiction fun h => hn fun k hk => Classical.byContradiction fun h' => h ⟨k, hk, h'⟩
  -- the first place where they are not the same
  have hfirst : ∃ j, j < l ∧ c j ≠ e j ∧ ∀ k, k < j → c k = e k := by
    obtain ⟨k, hk⟩ := hn
    induction k using Nat.strongRecOn with
    | _ k ih =>
      by_cases h : ∃ t, t < k ∧ c t ≠ e t
      · obtain ⟨t, ht, hne⟩ := h
        exact ih t ht ⟨by omega, hne⟩
      · exact ⟨k, hk.1, hk.2, fun t ht => Classical.byContradiction fun h' => h ⟨t, ht, h'⟩⟩
  obtain ⟨j, hj, hne, hbe⟩ := hfirst
  have hq : c j - e j ≠ 0 := fun h => hne (by grind)
  have hinv := Fp.inv_mul hq
  obtain ⟨r, hr⟩ : ∃ r, r = Fp.inv (c j - e j) := ⟨_, rfl⟩
  rw [← hr] at hinv
  -- the rest of the difference makes what lies j places earlier
  have hg : Gn (N - 1 - j) (l - 1 - j) (fun k => -(r * (c (j + 1 + k) - e (j + 1 + k)))) x := fun t h1 h3 => by
    have hi1 := hc (t + 1 + j) (by omega) (by omega)
    have hi2 := he (t + 1 + j) (by omega) (by omega)
    have hz : (sg l fun k => (c k - e k) * x (t + 1 + j - 1 - k)) = 0 := by
      have : (sg l fun k => (c k - e k) * x (t + 1 + j - 1 - k)) = (sg l fun k => c k * x (t + 1 + j - 1 - k)) + (-1) * sg l fun k => e k * x (t + 1 + j - 1 - k) := by
        rw [← sg_times, ← sg_add]; exact sg_congr fun k _ => by grind
      rw [this, ← hi1, ← hi2]; grind
    have hs : l = j + (1 + (l - 1 - j)) := by omega
    rw [hs, sg_split, sg_split] at hz
    have z1 : (sg j fun k => (c k - e k) * x (t + 1 + j - 1 - k)) = 0 := by
      rw [sg_congr (g := fun _ => 0) fun k hk => by rw [hbe k hk]; grind, sg_none]
    have z2 : (sg 1 fun k => (c (j + k) - e (j + k)) * x (t + 1 + j - 1 - (j + k))) = (c j - e j) * x t := by
      rw [sg_succ, sg_zero, Nat.add_zero, show t + 1 + j - 1 - j = t by omega]; grind
    have z3 : (sg (l - 1 - j) fun k => (c (j + (1 + k)) - e (j + (1 + k))) * x (t + 1 + j - 1 - (j + (1 + k)))) = sg (l - 1 - j) fun k => (c (j + 1 + k) - e (j + 1 + k)) * x (t - 1 - k) := sg_congr fun k _ => by
      rw [show j + (1 + k) = j + 1 + k by omega, show t + 1 + j - 1 - (j + 1 + k) = t - 1 - k by omega]
    rw [z1, z2, z3] at hz
    have : (sg (l - 1 - j) fun k => -(r * (c (j + 1 + k) - e (j + 1 + k))) * x (t - 1 - k)) = (-r) * sg (l - 1 - j) fun k => (c (j + 1 + k) - e (j + 1 + k)) * x (t - 1 - k) := by
      rw [← sg_times]; exact sg_congr fun k _ => by grind
    dsimp only
    rw [this]
    grind
  -- it makes all the numbers, since it is so short: but l were the fewest
  have hall := gn_on hg hc (by omega)
  have := hf.le hall
  omega

end Go.Proofs.YtpffekaldpllkaaDoor.Mx
