/- Contracts of package band, fourth part: copy into a variable, Mul. -/
import Derived.Test.YtbmkkcpdlakgbaaDoorBdC3
namespace Go.Proofs.YtbmkkcpdlakgbaaDoor
open Go.ChangeShapes Go.WideShapes Go.ChangeAt Go.RowKit
set_option linter.unusedVariables false

/-- copy of numbers into a part of a variable. -/
theorem cl_copy (w1 : World) (ty : TypeId) (g o dl dc : Nat) (A : Option Addr) (x : List Int) (n c : Nat) (rty : TypeId) (old : List Int) (hr : Cl ty w1 g old) (hn : x.length = n) (ho : o + n ≤ old.length) (hx : Lies w1 A x) (h0 : 0 < n) (hd : n ≤ dl) :
    (Builtin.copy_ #[22, 22] rty #[.slice (some ⟨g, o, none⟩) dl dc, .slice A n c]).run Tryd.prog w1 = .ok (goInt n) (w1.setRow g (ints (old.take o ++ x ++ old.drop (o + n))).toArray) := by
  subst hn
  obtain ⟨i0, hi, hz0, hz1, hz2⟩ := info_parts int_info
  have hsz : (Tryd.prog.info? 3).map (·.size) = some 1 := by rw [hi]; simp [hz1]
  obtain ⟨ad, rfl, _, _⟩ := hx 0 h0
  have hlen : (ints x).length = x.length := by rw [ints, List.length_map]
  have hrun := run_copy_row (P := Tryd.prog) w1 22 22 rty 3 g o dl dc ad x.length c _ ty (ints x) Tryd.underlying22 hsz hr (by rw [hlen]; exact (Nat.min_eq_left hd).symm)
    (fun j v hj => by
      have hj' : j < x.length := by
        rcases Nat.lt_or_ge j x.length with hlt | hge
        · exact hlt
        · rw [List.getElem?_eq_none (by simpa using hge)] at hj; cases hj
      obtain ⟨ad', e, _, hc⟩ := hx j hj'
      injection e with e
      subst e
      rw [hc, ← hj]
      simp [hj']) (by rw [hlen]; simpa using ho) (fun v hv => by simp at hv; obtain ⟨y, _, rfl⟩ := hv; rfl)
  rw [hlen] at hrun
  rw [hrun]
  congr 2
  simp [ints]
theorem cl_aft {ty : TypeId} {w : World} {g : Nat} {l m : List Int} (hc : Cl ty w g l) : Aft ty w g m (w.setRow g (ints m).toArray) :=
  ⟨hc.setRow, fun hne k => k.apart hne _, fun hk hg => bkp_setRow hk hg _, by simp [World.setRow]⟩

/-- An element of three numbers by value. -/
theorem index_r3 (L : List Value) (t : Nat) (x : Int) (w : World) (ht : t < 3) (h : L[t]? = some (.int .i64 x)) :
    (Instr.index 48 (.agg L.toArray) (.int .i64 (t : Int))).run Tryd.prog w = .ok (.int .i64 x) w := by
  obtain ⟨i0, hi, hz0, hz1, hz2⟩ := info_parts int_info
  have hu : Tryd.prog.underlying 48 = some (.array 3 3) := Tryd.underlying48
  simp [Instr.index, run_underlying hu, asIntOf, sizeOf, typeInfo, hi, hz1, h, go_sem]
  exact fun hc => absurd hc (by omega)

theorem BMul_bad (A B C X : Option Addr) (L M N : List Int) (n q p y c d f e : Nat) (w : World) (ha : Lies w A L) (hb : Lies w B M) (hc : Lies w C N) (hn : L.length = n) (hq : M.length = q) (hp : N.length = p) (h : bcode L M N ≠ 0) :
    Calls Tryd.prog 12 #[.slice A n c, .slice B q d, .slice C p f, .slice X y e] w fun e w' => e = .returned (.tuple #[.slice none 0 0, errOf (bcode L M N)]) ∧ w = w' := by
  subst hn hq hp
  have CK := Lib.hid (bChk_any A B C L M N c d f w ha hb hc)
  rw [errOf_ne _ h] at CK ⊢
  generalize bcode L M N = z at *
  generalize L.length = n at *
  generalize M.length = q at *
  generalize N.length = p at *
  clear ha hb hc h
  go_enter Tryd.func12, Tryd.ntmps12
  go_wp2_with fail
  refine (CK.out).mono ?_; rintro e w' ⟨rfl, rfl⟩
  go_wp2_with fail
  go_ret2
  exact ⟨rfl, rfl⟩

theorem bChk_bd {A B C : Option Addr} {q c d f : Nat} {m a b : Nat → Fp.F} {w : World} (ha : Lies w A (rowF (q + 1) m)) (hb : Lies w B (rowF q a)) (hc : Lies w C (rowF q b)) (hq : q ≤ 9) :
    Calls Tryd.prog 6 #[.slice A (q + 1) c, .slice B q d, .slice C q f] w fun e w' => e = .returned .nilIface ∧ w = w' := by
  have := bChk_any A B C _ _ _ c d f w ha hb hc
  rw [(Bd.mk rfl rfl rfl hq : Bd q m a b _ _ _).code, errOf_zero] at this
  simpa only [Mx.len_row] using this

theorem BMul_shape (A B C X : Option Addr) (q y c d f e : Nat) (m a b : Nat → Fp.F) (w : World) (ha : Lies w A (rowF (q + 1) m)) (hb : Lies w B (rowF q a)) (hc : Lies w C (rowF q b)) (hq : q ≤ 9) (h : y ≠ q + 1) :
    Calls Tryd.prog 12 #[.slice A (q + 1) c, .slice B q d, .slice C q f, .slice X y e] w fun e w' => e = .returned (.tuple #[.slice none 0 0, errOf 3]) ∧ w = w' := by
  have CK := Lib.hid (bChk_bd (c := c) (d := d) (f := f) ha hb hc hq)
  clear ha hb hc
  have e1 : ((y : Int) != ((q + 1 : Nat) : Int)) = true := by rw [bne_iff_ne]; omega
  generalize q + 1 = n at *
  clear h
  go_enter Tryd.func12, Tryd.ntmps12
  go_wp2_with fail
  refine (CK.out).mono ?_; rintro e w' ⟨rfl, rfl⟩
  go_wp2_with fail
  go_ret2
  exact ⟨rfl, rfl⟩
theorem BMul_range (A B C X : Option Addr) (Z : List Int) (q y c d f e : Nat) (m a b : Nat → Fp.F) (w : World) (ha : Lies w A (rowF (q + 1) m)) (hb : Lies w B (rowF q a)) (hc : Lies w C (rowF q b)) (hq : q ≤ 9) (hx : Lies w X Z) (hy : Z.length = y) (h : y = q + 1) (hr : ¬ AllIn Z 0 9972) :
    Calls Tryd.prog 12 #[.slice A (q + 1) c, .slice B q d, .slice C q f, .slice X y e] w fun e w' => e = .returned (.tuple #[.slice none 0 0, errOf 1]) ∧ w = w' := by
  have CK := Lib.hid (bChk_bd (c := c) (d := d) (f := f) ha hb hc hq)
  have EL := Lib.hid (elements_any X Z e w hx (by omega) false ⟨fun h => (by cases h), fun h => absurd h hr⟩)
  rw [hy] at EL
  clear ha hb hc hx hr hy
  subst h
  have e1 : ((((q + 1 : Nat) : Int)) != ((q + 1 : Nat) : Int)) = false := by simp
  generalize q + 1 = n at *
  go_enter Tryd.func12, Tryd.ntmps12
  go_wp2_with fail
  refine (CK.out).mono ?_; rintro e w' ⟨rfl, rfl⟩
  go_wp2_with fail
  refine (EL.out).mono ?_; rintro e w' ⟨rfl, rfl⟩
  go_wp2_with fail
  go_ret2
  exact ⟨rfl, rfl⟩

/-- The row with one number more at both ends. -/
def wid (n : Nat) (x : Nat → Fp.F) (p : Nat) : Fp.F := if 0 < p ∧ p ≤ n then x (p - 1) else 0
theorem wid_copy (n : Nat) (x : Nat → Fp.F) (hn : n ≤ 10) : (List.replicate 12 (0 : Int)).take 1 ++ rowF n x ++ (List.replicate 12 (0 : Int)).drop (1 + n) = rowF 12 (wid n x) := by
  refine list_same _ _ (by simp [Mx.len_row]; omega) fun k hk => ?_
  simp [Mx.len_row] at hk
  rw [Mx.row_at _ _ _ (by omega)]
  unfold wid
  rcases k with _ | k
  · simp
  · by_cases h : k < n
    · rw [if_pos (by omega)]
      simp [List.getElem?_append, Mx.row, h]
    · rw [if_neg (by omega)]
      simp [List.getElem?_append, Mx.row, h]
      rw [show [0, 0, 0, 0, 0, 0, 0, 0, 0, 0, 0, 0] = List.replicate 12 (0 : Int) from rfl, List.getElem?_replicate]
      split <;> rfl

/-- The first k of the three that make a number of the product. -/
def s3 (h : Nat → Nat → Fp.F) (u : Nat → Fp.F) (i : Nat) : Nat → Fp.F
  | 0 => 0
  | k + 1 => s3 h u i k + h i k * u (i + k)
theorem sg_band {n i : Nat} (hi : i < n) (f : Nat → Fp.F) (hf : ∀ j, j < n → j ≠ i → j + 1 ≠ i → i + 1 ≠ j → f j = 0) :
    Mx.sg n f = (if 0 < i then f (i - 1) else 0) + f i + (if i + 1 < n then f (i + 1) else 0) := by
  obtain ⟨r, rfl⟩ : ∃ r, n = i + (1 + r) := ⟨n - i - 1, by omega⟩
  rw [Mx.sg_split, Mx.sg_split]
  have e1 : Mx.sg i f = if 0 < i then f (i - 1) else 0 := by
    by_cases h : 0 < i
    · rw [if_pos h]
      exact Mx.sg_one (by omega) fun j hj hne => hf j (by omega) (by omega) (by omega) (by omega)
    · obtain rfl : i = 0 := by omega
      rw [if_neg h]; rfl
  have e2 : Mx.sg 1 (fun k => f (i + k)) = f i := by rw [Mx.sg_succ, Mx.sg_zero]; grind
  have e3 : Mx.sg r (fun k => f (i + (1 + k))) = if i + 1 < i + (1 + r) then f (i + 1) else 0 := by
    by_cases h : 0 < r
    · rw [if_pos (by omega)]
      exact Mx.sg_one (k := 0) h fun j hj hne => hf _ (by omega) (by omega) (by omega) (by omega)
    · obtain rfl : r = 0 := by omega
      rw [if_neg (by omega)]; rfl
  rw [e1, e2, e3]; grind
theorem s3_tov (m a b x : Nat → Fp.F) (q i : Nat) (hi : i < q + 1) : s3 (ce m a b (q + 1) q q) (wid (q + 1) x) i 3 = Mx.tov (q + 1) (Mx.bnd m a b) x i := by
  unfold Mx.tov
  rw [sg_band hi _ (fun j hj h1 h2 h3 => by rw [Mx.bnd_out m a b (by omega) (by omega) (by omega)]; grind)]
  have e0 : ce m a b (q + 1) q q i 0 * wid (q + 1) x (i + 0) = if 0 < i then Mx.bnd m a b i (i - 1) * x (i - 1) else 0 := by
    unfold ce wid
    rw [if_neg (by omega), if_neg (by omega)]
    rcases i with _ | i
    · rw [if_neg (by omega), if_neg (by omega), if_neg (by omega)]; grind
    · rw [if_pos (by omega), if_pos (by omega), if_pos (by omega)]
      show b i * x i = Mx.bnd m a b (i + 1) i * x i
      rw [Mx.bnd_low]
  have e1 : ce m a b (q + 1) q q i 1 * wid (q + 1) x (i + 1) = Mx.bnd m a b i i * x i := by
    unfold ce wid
    rw [if_pos rfl, if_pos hi, if_pos (by omega), Mx.bnd_mid]; rfl
  have e2 : ce m a b (q + 1) q q i 2 * wid (q + 1) x (i + 2) = if i + 1 < q + 1 then Mx.bnd m a b i (i + 1) * x (i + 1) else 0 := by
    unfold ce wid
    rw [if_neg (by omega), if_pos rfl]
    by_cases h : i < q
    · rw [if_pos h, if_pos (by omega), if_pos (by omega), Mx.bnd_up]; rfl
    · rw [if_neg h, if_neg (by omega), if_neg (by omega)]; grind
  simp only [s3]
  rw [e0, e1, e2]; grind

/-- What stands of the product before row i, and k of the three of its own. -/
def pcol (h : Nat → Nat → Fp.F) (u : Nat → Fp.F) (i k : Nat) : Nat → Fp.F := fun j => if j < i then s3 h u j 3 else if j = i then s3 h u i k else 0
theorem pcol_more (h : Nat → Nat → Fp.F) (u : Nat → Fp.F) {n i : Nat} (k : Nat) (hi : i < n) : (rowF n (pcol h u i k)).set i ((s3 h u i (k + 1)).val : Int) = rowF n (pcol h u i (k + 1)) := by
  rw [rowF, Mx.row_set]
  refine Mx.row_ext fun j _ => ?_
  unfold pcol
  by_cases e : j = i
  · rw [if_pos e, if_neg (by omega), if_pos e]
  · rw [if_neg e, if_neg e, if_neg e]
theorem pcol_next (h : Nat → Nat → Fp.F) (u : Nat → Fp.F) (i : Nat) : pcol h u i 3 = pcol h u (i + 1) 0 := by
  funext j
  unfold pcol
  by_cases e : j < i
  · rw [if_pos e, if_pos (by omega)]
  · rw [if_neg e]
    by_cases e2 : j = i
    · rw [if_pos e2, if_pos (by omega), e2]
    · rw [if_neg e2, if_neg (by omega)]
      split
      · simp only [s3]
      · rfl
theorem pcol_zero (h : Nat → Nat → Fp.F) (u : Nat → Fp.F) (n : Nat) : List.replicate n 0 = rowF n (pcol h u 0 0) := by
  rw [Mx.row_rep]
  refine Mx.row_ext fun j _ => ?_
  unfold pcol
  rw [if_neg (by omega)]
  split <;> rfl

end Go.Proofs.YtbmkkcpdlakgbaaDoor
