/- Plain facts on the field of the numbers below 9973: that it is prime, powers, Fermat, roots. No program is named here. -/
import Derived.KernelRfl
namespace Go.Proofs.Ytkebjmapdcbnaaa.Fp

/-- The field of the document: the numbers below 9973. -/
abbrev F := Fin 9973

/-- Does p hold of all numbers below n? -/
def below (p : Nat → Bool) : Nat → Bool
  | 0 => true
  | n + 1 => p n && below p n

theorem below_all (p : Nat → Bool) (n : Nat) (h : below p n = true) : ∀ k, k < n → p k = true := by
  induction n with
  | zero => intro k hk; omega
  | succ n ih =>
    intro k hk
    have h' : (p n && below p n) = true := h
    rw [Bool.and_eq_true] at h'
    by_cases e : k = n
    · subst e; exact h'.1
    · exact ih h'.2 k (by omega)

theorem small_no : ∀ k, k < 100 → 2 ≤ k → ¬ k ∣ 9973 := by
  have h : below (fun k => decide (k < 2) || (9973 % k != 0)) 100 = true := by decide +kernel
  intro k hk h2 hd
  have := below_all _ _ h k hk
  have e := Nat.mod_eq_zero_of_dvd hd
  simp [e] at this
  omega

theorem prime (g : Nat) (h : g ∣ 9973) : g = 1 ∨ g = 9973 := by
  obtain ⟨k, hk⟩ := h
  have hg : 0 < g := Nat.pos_of_ne_zero fun e => by subst e; omega
  by_cases h1 : g < 100
  · by_cases h2 : g = 1
    · exact Or.inl h2
    · exact absurd ⟨k, hk⟩ (small_no g h1 (by omega))
  · have hk1 : k < 100 := by
      refine Nat.lt_of_not_le fun hc => ?_
      have := Nat.mul_le_mul (Nat.le_of_not_lt h1) hc
      omega
    by_cases h2 : k = 1
    · subst h2; right; omega
    · by_cases h3 : k = 0
      · subst h3; omega
      · exact absurd ⟨g, by rw [Nat.mul_comm]; exact hk⟩ (small_no k hk1 (by omega))

theorem coprime (b : Nat) (h0 : b ≠ 0) (h1 : b < 9973) : Nat.gcd b 9973 = 1 := by
  rcases prime _ (Nat.gcd_dvd_right b 9973) with h | h
  · exact h
  · have := Nat.le_of_dvd (by omega) (Nat.gcd_dvd_left b 9973)
    omega

theorem val_zero : ((0 : F)).val = 0 := rfl
theorem val_one : ((1 : F)).val = 1 := rfl
theorem ne_val {b : F} (h : b ≠ 0) : b.val ≠ 0 := fun e => h (Fin.ext e)
theorem val_mul (a b : F) : (a * b).val = a.val * b.val % 9973 := Fin.val_mul a b
theorem val_add (a b : F) : (a + b).val = (a.val + b.val) % 9973 := Fin.val_add a b

theorem mul_zero_or {a b : F} (h : a * b = 0) : a = 0 ∨ b = 0 := by
  by_cases hb : b = 0
  · exact Or.inr hb
  · refine Or.inl (Fin.ext ?_)
    have e : a.val * b.val % 9973 = 0 := by rw [← val_mul, h]; rfl
    have d : 9973 ∣ a.val * b.val := Nat.dvd_of_mod_eq_zero e
    have c : Nat.Coprime 9973 b.val := by
      have := coprime b.val (ne_val hb) b.isLt
      rw [Nat.gcd_comm] at this; exact this
    have d' : 9973 ∣ a.val := Nat.Coprime.dvd_of_dvd_mul_right c d
    have := a.isLt
    show a.val = 0
    refine Nat.eq_zero_of_not_pos fun hp => ?_
    have := Nat.le_of_dvd hp d'
    omega

theorem one_ne : (1 : F) ≠ 0 := by decide
theorem mul_cancel {a b c : F} (hc : c ≠ 0) (h : a * c = b * c) : a = b := by
  have e : (a - b) * c = 0 := by grind
  rcases mul_zero_or e with h | h
  · grind
  · exact absurd h hc

/-- Powers. -/
def pw (a : F) : Nat → F
  | 0 => 1
  | n + 1 => pw a n * a

theorem pw_zero (a : F) : pw a 0 = 1 := rfl
theorem pw_succ (a : F) (n : Nat) : pw a (n + 1) = pw a n * a := rfl
theorem pw_one (a : F) : pw a 1 = a := by rw [pw_succ, pw_zero]; grind
theorem pw_add (a : F) (n m : Nat) : pw a (n + m) = pw a n * pw a m := by
  induction m with
  | zero => rw [Nat.add_zero, pw_zero]; grind
  | succ m ih => rw [← Nat.add_assoc, pw_succ, pw_succ, ih]; grind
theorem pw_mul (a : F) (n m : Nat) : pw a (n * m) = pw (pw a n) m := by
  induction m with
  | zero => rw [Nat.mul_zero, pw_zero, pw_zero]
  | succ m ih => rw [Nat.mul_succ, pw_add, ih, pw_succ]
theorem pw_times (a b : F) (n : Nat) : pw (a * b) n = pw a n * pw b n := by
  induction n with
  | zero => rw [pw_zero, pw_zero, pw_zero]; grind
  | succ n ih => rw [pw_succ, pw_succ, pw_succ, ih]; grind
theorem pw_zero_base (n : Nat) (h : n ≠ 0) : pw 0 n = 0 := by
  obtain ⟨m, rfl⟩ := Nat.exists_eq_succ_of_ne_zero h
  rw [Nat.succ_eq_add_one, pw_succ]; grind
theorem pw_one_base (n : Nat) : pw 1 n = 1 := by
  induction n with
  | zero => rfl
  | succ n ih => rw [pw_succ, ih]; grind

/-- One round of the quick way. -/
theorem pw_half (a : F) (n : Nat) : pw a n = pw (a * a) (n / 2) * (if n % 2 = 1 then a else 1) := by
  have e : pw (a * a) (n / 2) = pw a (2 * (n / 2)) := by rw [pw_mul, pw_succ, pw_one]
  rw [e]
  by_cases h : n % 2 = 1
  · rw [if_pos h]
    have : n = 2 * (n / 2) + 1 := by omega
    conv => lhs; rw [this]
    rw [pw_succ]
  · rw [if_neg h]
    have : n = 2 * (n / 2) := by omega
    conv => lhs; rw [this]
    grind

/-- Powers in the naturals, quickly: what a closed fact is asked of. -/
def q (a : Nat) : List Bool → Nat → Nat
  | [], r => r
  | b :: bs, r => q a bs (if b then r * r % 9973 * a % 9973 else r * r % 9973)

theorem q_val (a : F) (bs : List Bool) (r : F) (n : Nat) (hr : r = pw a n) :
    q a.val bs r.val = (pw a (bs.foldl (fun m b => 2 * m + (if b then 1 else 0)) n)).val := by
  induction bs generalizing r n with
  | nil => rw [q, List.foldl_nil, hr]
  | cons b bs ih =>
    rw [q, List.foldl_cons]
    have e2 : pw a (2 * n) = r * r := by
      have : 2 * n = n + n := by omega
      rw [this, pw_add, hr]
    cases b with
    | true =>
      have e : r.val * r.val % 9973 * a.val % 9973 = ((r * r) * a).val := by rw [val_mul, val_mul]
      rw [if_pos rfl, e, ih (r * r * a) (2 * n + 1) (by rw [pw_succ, e2])]
      rfl
    | false =>
      have e : r.val * r.val % 9973 = (r * r).val := by rw [val_mul]
      rw [if_neg (by decide), e, ih (r * r) (2 * n) (by rw [e2])]
      rfl

/-- FERMAT, by trying all. 9972 in binary: 10011011110100. -/
def bitsP : List Bool := [true, false, false, true, true, false, true, true, true, true, false, true, false, false]
theorem all_one : below (fun j => below (fun i => decide (9973 ≤ 100 * j + i + 1) || (q (100 * j + i + 1) bitsP 1 == 1)) 100) 100 = true := by decide +kernel

theorem fermat (a : F) (h : a ≠ 0) : pw a 9972 = 1 := by
  have e := q_val a bitsP 1 0 rfl
  have e2 : bitsP.foldl (fun m b => 2 * m + (if b then 1 else 0)) 0 = 9972 := by decide
  rw [e2] at e
  have hv := ne_val h
  have hl := a.isLt
  have h1 := below_all _ _ all_one ((a.val - 1) / 100) (by omega)
  have h2 := below_all _ _ h1 ((a.val - 1) % 100) (by omega)
  have e3 : 100 * ((a.val - 1) / 100) + (a.val - 1) % 100 + 1 = a.val := by omega
  rw [e3] at h2
  refine Fin.ext ?_
  rw [← e]
  have h3 : decide (9973 ≤ a.val) = false := decide_eq_false (by omega)
  rw [h3, Bool.false_or, beq_iff_eq] at h2
  exact h2

theorem square_one {x : F} (h : x * x = 1) : x = 1 ∨ x = -1 := by
  have e : (x - 1) * (x + 1) = 0 := by grind
  rcases mul_zero_or e with h | h
  · left; grind
  · right; grind

theorem half (a : F) (h : a ≠ 0) : pw a 4986 = 1 ∨ pw a 4986 = -1 := by
  refine square_one ?_
  rw [← pw_add]
  exact fermat a h

theorem half_square (a : F) (h : a ≠ 0) : pw (a * a) 4986 = 1 := by
  rw [pw_times, ← pw_add]
  exact fermat a h

theorem roots (a b : F) : b * b = a * a ↔ b = a ∨ b = -a := by
  constructor
  · intro h
    have e : (b - a) * (b + a) = 0 := by grind
    rcases mul_zero_or e with h | h
    · left; grind
    · right; grind
  · rintro (h | h) <;> subst h <;> grind

theorem val_neg (a : F) (h : a ≠ 0) : (-a).val = 9973 - a.val := by
  have hl := a.isLt
  have hv := ne_val h
  rw [Fin.val_neg]
  split
  · exact absurd ‹_› h
  · rfl

/-- What undoes: by the power 9971. -/
def inv (a : F) : F := pw a 9971
theorem inv_mul {a : F} (h : a ≠ 0) : inv a * a = 1 := by
  rw [inv, ← pw_succ]; exact fermat a h
theorem mul_inv {a : F} (h : a ≠ 0) : a * inv a = 1 := by rw [Fin.mul_comm]; exact inv_mul h

theorem mul_add (a b c : F) : a * (b + c) = a * b + a * c := by grind

/-- Of an integer its element. -/
def ofInt (n : Int) : F := ⟨(n % 9973).toNat, by omega⟩
theorem ofInt_val (n : Int) : ((ofInt n).val : Int) = n % 9973 := by
  show (((n % 9973).toNat : Nat) : Int) = n % 9973
  omega
theorem ofInt_of (n : Int) (h1 : 0 ≤ n) (h2 : n ≤ 9972) : ((ofInt n).val : Int) = n := by rw [ofInt_val]; omega
theorem ofInt_self (a : F) : ofInt (a.val : Int) = a := by
  refine Fin.ext ?_
  have := ofInt_val (a.val : Int)
  have := a.isLt
  omega
theorem mul_val (a b : F) : ((a * b).val : Int) = (a.val : Int) * (b.val : Int) % 9973 := by rw [val_mul]; simp
theorem add_val (a b : F) : ((a + b).val : Int) = ((a.val : Int) + (b.val : Int)) % 9973 := by rw [val_add]; simp
theorem ofInt_mul (a b : Int) : ofInt (a * b) = ofInt a * ofInt b := by
  refine Fin.ext (Int.ofNat.inj ?_)
  show ((ofInt (a * b)).val : Int) = ((ofInt a * ofInt b).val : Int)
  rw [mul_val, ofInt_val, ofInt_val, ofInt_val, ← Int.mul_emod]
theorem ofInt_add (a b : Int) : ofInt (a + b) = ofInt a + ofInt b := by
  refine Fin.ext (Int.ofNat.inj ?_)
  show ((ofInt (a + b)).val : Int) = ((ofInt a + ofInt b).val : Int)
  rw [add_val, ofInt_val, ofInt_val, ofInt_val, ← Int.add_emod]
theorem val_inj {a b : F} (h : (a.val : Int) = (b.val : Int)) : a = b := Fin.ext (Int.ofNat.inj h)
theorem val_eq (a b : F) : ((a.val : Int) = (b.val : Int)) ↔ a = b := ⟨val_inj, fun h => by rw [h]⟩
theorem val_bound (a : F) : 0 ≤ (a.val : Int) ∧ (a.val : Int) ≤ 9972 := by have := a.isLt; omega

end Go.Proofs.Ytkebjmapdcbnaaa.Fp
