/- Contracts of package sturm, second part: derivative, after, Check. -/
import Derived.Test.YtbdpcpodmmhjaaaSuC1
import Derived.Test.YtbdpcpodmmhjaaaOwnM
namespace Go.Proofs.Ytbdpcpodmmhjaaa
open Go.ChangeShapes Go.WideShapes Go.ChangeAt Go.RowKit
set_option linter.unusedVariables false

/-- The first k factors of a slope. -/
def slk (l : List Int) (k : Nat) : List Int := (List.range k).map fun i : Nat => ((i : Int) + 1) * l.getD (i + 1) 0
theorem slk_len (l : List Int) (k : Nat) : (slk l k).length = k := by simp [slk]
theorem slk_snoc (l : List Int) (k : Nat) : slk l (k + 1) = slk l k ++ [((k : Int) + 1) * l.getD (k + 1) 0] := by
  unfold slk; rw [List.range_succ, List.map_append]; rfl
theorem slk_all (l : List Int) : slk l (l.length - 1) = Stu.slp l := rfl
theorem Sz.slope {g : List Int} (h : Stu.Sz g) (h0 : 0 < g.length) : Stu.Sz (Stu.slp g) := by
  obtain ⟨h4, B, hB, hb, hS⟩ := h
  have b := Stu.slp_bn hB hb h4
  refine ⟨by rw [Stu.slp_len]; omega, 3 * B, by omega, b, ?_⟩
  rw [Stu.slp_len]
  obtain ⟨n, hn⟩ : ∃ n, g.length = n + 1 := ⟨g.length - 1, by omega⟩
  rw [hn] at hS ⊢
  rw [Nat.add_sub_cancel]
  rw [Int.pow_succ, ← Int.mul_assoc] at hS
  have p := Int.mul_nonneg hB (show (0 : Int) ≤ 200 ^ n by have := pow200 n; omega)
  rw [show 3 * B * 200 ^ n = 3 * (B * 200 ^ n) by rw [Int.mul_assoc]]
  omega
theorem slope_fit {g : List Int} (h : Stu.Sz g) {k : Nat} (hk : k + 1 < g.length) : IntKind.i64.wrap (((k : Int) + 1) * g.getD (k + 1) 0) = ((k : Int) + 1) * g.getD (k + 1) 0 := by
  obtain ⟨h4, B, hB, hb, hS⟩ := h
  have a := bn_at hb hk
  have p := pow200 g.length
  have q := Int.mul_le_mul_of_nonneg_left (pow200_le (show 1 ≤ g.length by omega)) hB
  rw [show (200 : Int) ^ 1 = 200 from rfl] at q
  refine IntWalk.i64_in _ ?_
  generalize g.getD (k + 1) 0 = z at *
  rcases show k = 0 ∨ k = 1 ∨ k = 2 by omega with rfl | rfl | rfl <;> omega

theorem add_one_at (ad : Addr) (k : Nat) : (ad.add 1).add k = ⟨ad.block, ad.off + 1 + k, none⟩ := by
  have h1 : ad.add 1 = ⟨ad.block, ad.off + 1, none⟩ := rfl
  rw [h1]
  unfold Addr.add
  by_cases h : k = 0
  · subst h; rfl
  · rw [if_neg h]

set_option maxHeartbeats 1600000 in
theorem uder_more (A : Option Addr) (l : List Int) (m c : Nat) (w : World) (hl : Lies w A l) (hn : l.length = m + 1) (hc1 : ¬ c = 1) (hc : m + 1 ≤ c) (sz : Stu.Sz l) :
    Calls Try.prog 25 #[.slice A (m + 1) c] w fun e w' => SomeRow (Stu.slp l) w e w' := by
  obtain ⟨ad, rfl, _, _⟩ := hl 0 (by omega)
  have m4 : m ≤ 3 := by have := sz.1; omega
  have HD := Lib.hid (hl.drop 1)
  have HN := Lib.hid hn
  have FIT := Lib.hid (fun k (hk : k < m) => slope_fit sz (k := k) (by omega))
  have EQ := Lib.hid (show slk l m = Stu.slp l by rw [← slk_all, hn]; rfl)
  clear hl hn sz
  go_enter Try.func25, Try.ntmps25
  go_wp2_with fail
  go_loopw [3, 9] (fun v j wr => ∃ k : Nat, k ≤ m ∧ j = .int .i64 (k : Int) ∧ Own wr w.heap.size v (slk l k) ∧ Kp w wr) (fun _ j _ => m - (intOf j).toNat)
  case atStart => exact ⟨0, Nat.zero_le _, rfl, Own.none _ _, Kp.rfl' _⟩
  case round =>
    obtain ⟨k, hk, rfl, ho, hkp⟩ := hrel
    have HO := Lib.hid ho
    have HK := Lib.hid hkp
    clear ho hkp
    by_cases hlt : k < m
    · obtain ⟨ad', e', _, x1⟩ := (HD.out.keep HK.out) k (by rw [List.length_drop, HN.out]; omega)
      obtain rfl := Option.some.inj e'
      have e2 : (l.drop 1).getD k 0 = l.getD (k + 1) 0 := by rw [List.getD_eq_getElem?_getD, List.getD_eq_getElem?_getD, List.getElem?_drop, Nat.add_comm]
      have ea := add_one_at ad k
      rw [e2, ea] at x1
      have hwm := FIT.out k hlt
      have SN := Lib.hid (slk_snoc l k)
      have hlen : (slk l k).length + 1 ≤ 17000000000000 := by rw [slk_len]; omega
      have HSZ := HK.out.size
      generalize l.getD (k + 1) 0 = a at *
      clear e2 e' ea
      go_wp2_with (at_builtin; refine wpList_push rfl _ _ rfl w.heap.size _ (slk l k) (((k : Int) + 1) * a) wr.heap.size 1 rfl rfl (HO.out.new _) (cell_made _ _ _ _ 0 rfl) hlen (Nat.le_trans HSZ ((Kp.rfl' _).new _).size) ?_; intro v' w' h1 h2 _; have HO' := Lib.hid h1; have HK' := Lib.hid (show Kp w w' from own_below (HO.out.new _) (HK.out.new _) (Nat.le_trans HSZ ((Kp.rfl' _).new _).size) h2); clear h1 h2)
      go_roundw
      case rel => exact ⟨k + 1, by omega, by go_num, by rw [SN.out]; exact HO'.out, HK'.out⟩
      case measure => simp [intOf]; omega
    · obtain rfl : k = m := by omega
      go_wp2_with fail
      go_ret
      exact ⟨_, rfl, by rw [← EQ.out]; exact HO.out, HK.out⟩

set_option maxHeartbeats 1600000 in
theorem uder_one (A : Option Addr) (l : List Int) (c : Nat) (w : World) (hl : Lies w A l) (hn : l.length = 1) (hc : c = 1) :
    Calls Try.prog 25 #[.slice A 1 c] w fun e w' => SomeRow (Stu.slp l) w e w' := by
  obtain ⟨ad, rfl, _, _⟩ := hl 0 (by omega)
  have EQ := Lib.hid (show Stu.slp l = [] from List.eq_nil_of_length_eq_zero (by rw [Stu.slp_len]; omega))
  subst hc
  clear hl hn
  go_enter Try.func25, Try.ntmps25
  go_wp2_with fail
  go_loopw [3, 9] (fun v j wr => j = .int .i64 0 ∧ v = .slice none 0 0 ∧ wr = w) (fun _ _ _ => 0)
  case atStart => exact ⟨rfl, rfl, rfl⟩
  case round =>
    obtain ⟨rfl, rfl, rfl⟩ := hrel
    go_wp2_with fail
    go_ret
    exact ⟨_, rfl, by rw [EQ.out]; exact Own.none _ _, Kp.rfl' _⟩
theorem uder_any (A : Option Addr) (l : List Int) (n c : Nat) (w : World) (hl : Lies w A l) (hn : l.length = n) (h0 : 0 < n) (hc : n ≤ c) (sz : Stu.Sz l) :
    Calls Try.prog 25 #[.slice A n c] w fun e w' => SomeRow (Stu.slp l) w e w' := by
  by_cases h : c = 1
  · obtain rfl : n = 1 := by omega
    exact uder_one A l c w hl hn h
  · obtain ⟨m, rfl⟩ : ∃ m, n = m + 1 := ⟨n - 1, by omega⟩
    exact uder_more A l m c w hl hn h hc sz

def lenOf : Value → Nat
  | .slice _ n _ => n
  | _ => 0
theorem aft_nil (x : Int) : Stu.aft ([] : List Int).length [] x = 0 := rfl
theorem aft_here {g : List Int} {m : Nat} {x : Int} (h : g.length = m + 1) (h0 : Stu.hv g x ≠ 0) : Stu.aft g.length g x = Stu.hv g x := by
  rw [h, Stu.aft, if_neg (fun e => by rw [e] at h; simp at h), if_neg h0]
theorem aft_on {g : List Int} {m : Nat} {x : Int} (h : g.length = m + 1) (h0 : Stu.hv g x = 0) : Stu.aft g.length g x = Stu.aft (Stu.slp g).length (Stu.slp g) x := by
  rw [h, Stu.aft, if_neg (fun e => by rw [e] at h; simp at h), if_pos h0, Stu.slp_len, h]; rfl

set_option maxHeartbeats 1600000 in
theorem uaft_any (A : Option Addr) (l : List Int) (n c : Nat) (x : Int) (w : World) (hl : Lies w A l) (hn : l.length = n) (hc : n ≤ c) (sz : Stu.Sz l) (hx : -100 ≤ x ∧ x ≤ 100) :
    Calls Try.prog 27 #[.slice A n c, .int .i64 x] w fun e w' => e = .returned (.int .i64 (Stu.aft l.length l x)) ∧ Kp w w' := by
  obtain ⟨T, hT⟩ : ∃ T, T = Stu.aft l.length l x := ⟨_, rfl⟩
  rw [← hT]
  have ST := Lib.hid (show ∃ g : List Int, g.length = n ∧ Lies w A g ∧ Stu.Sz g ∧ T = Stu.aft g.length g x from ⟨l, hn, hl, sz, hT⟩)
  have HX := Lib.hid hx
  clear hl hn sz hT hx
  go_enter Try.func27, Try.ntmps27
  go_wp2_with fail
  go_loopw [0] (fun v wr => ∃ (A' : Option Addr) (m c' : Nat), v = .slice A' m c' ∧ m ≤ c' ∧ (∃ g : List Int, g.length = m ∧ Lies wr A' g ∧ Stu.Sz g ∧ T = Stu.aft g.length g x) ∧ Kp w wr) (fun v _ => lenOf v)
  case atStart => exact ⟨A, n, c, rfl, hc, ST.out, Kp.rfl' _⟩
  case round =>
    obtain ⟨A', m, c', rfl, hmc, ⟨g, hg, hlies, hsz, ht⟩, hkp⟩ := hrel
    have HK := Lib.hid hkp
    by_cases h0 : m = 0
    · subst h0
      have E := Lib.hid (show T = 0 by rw [ht, List.eq_nil_of_length_eq_zero hg]; rfl)
      clear hlies hsz ht hkp hg hmc
      go_wp2_with fail
      go_ret
      exact ⟨by rw [E.out]; rfl, HK.out⟩
    · have hm0 : (0 : Int) < (m : Int) := by omega
      have VAL := Lib.hid (uval_any A' g m c' x wr hlies hg hsz HX.out)
      have DER := Lib.hid (uder_any A' g m c' wr hlies hg (by omega) hmc hsz)
      have SZ2 := Lib.hid (Sz.slope hsz (by omega))
      have SL := Lib.hid (Stu.slp_len g)
      have HG := Lib.hid hg
      by_cases hv0 : Stu.hv g x = 0
      · have E := Lib.hid (show T = Stu.aft (Stu.slp g).length (Stu.slp g) x by rw [ht, aft_on (m := m - 1) (by omega) hv0])
        rw [hv0] at VAL
        clear hlies hsz ht hkp hg hv0
        go_wp2_with fail
        refine (VAL.out).mono ?_; rintro e w1 ⟨rfl, rfl⟩
        go_wp2_with fail
        refine (DER.out).mono ?_; rintro e w1 ⟨v, rfl, ho, k1⟩
        obtain ⟨A2, c2, rfl, l2, hc2⟩ := ho.cap
        have L2 := Lib.hid l2
        have K2 := Lib.hid (HK.out.trans k1)
        clear ho k1 l2
        go_wp2_with fail
        go_roundw
        case rel => exact ⟨A2, _, c2, rfl, hc2, ⟨Stu.slp g, rfl, L2.out, SZ2.out, E.out⟩, K2.out⟩
        case measure => simp [lenOf]; rw [SL.out, HG.out]; omega
      · have E := Lib.hid (show T = Stu.hv g x by rw [ht, aft_here (m := m - 1) (by omega) hv0])
        generalize Stu.hv g x = u at *
        clear hlies hsz ht hkp hg
        go_wp2_with fail
        refine (VAL.out).mono ?_; rintro e w1 ⟨rfl, rfl⟩
        go_wp2_with fail
        go_ret
        exact ⟨by rw [E.out]; rfl, HK.out⟩

/-- What is wrong with a row of whole factors. -/
noncomputable def ucd (L : List Int) : Nat := open Classical in if L.length = 0 then 5 else if 4 < L.length then 4 else if ¬ AllIn L (-20) 20 then 1 else if L.getD (L.length - 1) 0 = 0 then 3 else 0
theorem ucd_none {L : List Int} (h : L.length = 0) : ucd L = 5 := by unfold ucd; rw [if_pos h]
theorem ucd_full {L : List Int} (h : 4 < L.length) : ucd L = 4 := by unfold ucd; rw [if_neg (by omega), if_pos h]
theorem ucd_range {L : List Int} (h0 : ¬ L.length = 0) (h : ¬ 4 < L.length) (h2 : ¬ AllIn L (-20) 20) : ucd L = 1 := by unfold ucd; rw [if_neg h0, if_neg h, if_pos h2]
theorem ucd_shape {L : List Int} (h0 : ¬ L.length = 0) (h : ¬ 4 < L.length) (h2 : AllIn L (-20) 20) (h3 : L.getD (L.length - 1) 0 = 0) : ucd L = 3 := by unfold ucd; rw [if_neg h0, if_neg h, if_neg (fun e => e h2), if_pos h3]
theorem ucd_ok {L : List Int} (h0 : ¬ L.length = 0) (h : ¬ 4 < L.length) (h2 : AllIn L (-20) 20) (h3 : ¬ L.getD (L.length - 1) 0 = 0) : ucd L = 0 := by unfold ucd; rw [if_neg h0, if_neg h, if_neg (fun e => e h2), if_neg h3]
/-- A row that the laws take. -/
structure Whl (n : Nat) (L : List Int) : Prop where
  len : L.length = n
  n0 : 0 < n
  n4 : n ≤ 4
  bn : Stu.Bn 20 L
  tp : Stu.Tp L
theorem Whl.ne {n : Nat} {L : List Int} (h : Whl n L) : L ≠ [] := fun e => by have := h.len; have := h.n0; rw [e] at *; simp at *; omega
theorem bn_allIn {L : List Int} {a : Int} : Stu.Bn a L ↔ AllIn L (-a) a := by
  constructor
  · intro h k hk; exact bn_at h hk
  · intro h z hz
    obtain ⟨k, hk, rfl⟩ := List.getElem_of_mem hz
    have := h k hk
    rwa [List.getD_eq_getElem?_getD, List.getElem?_eq_getElem hk] at this
theorem Whl.code {n : Nat} {L : List Int} (h : Whl n L) : ucd L = 0 :=
  ucd_ok (by rw [h.len]; have := h.n0; omega) (by rw [h.len]; have := h.n4; omega) (bn_allIn.1 h.bn) (h.tp h.ne)
theorem whl_or (L : List Int) : Whl L.length L ∨ ucd L ≠ 0 := by
  by_cases h0 : L.length = 0
  · right; rw [ucd_none h0]; decide
  · by_cases h1 : 4 < L.length
    · right; rw [ucd_full h1]; decide
    · by_cases h2 : AllIn L (-20) 20
      · by_cases h3 : L.getD (L.length - 1) 0 = 0
        · right; rw [ucd_shape h0 h1 h2 h3]; decide
        · exact .inl ⟨rfl, by omega, by omega, bn_allIn.2 h2, fun _ => h3⟩
      · right; rw [ucd_range h0 h1 h2]; decide

theorem uChk_none (A : Option Addr) (L : List Int) (c : Nat) (w : World) (h : L.length = 0) :
    Calls Try.prog 20 #[.slice A L.length c] w fun e w' => e = .returned (errOf (ucd L)) ∧ w = w' := by
  rw [ucd_none h, h]
  clear h
  go_enter Try.func20, Try.ntmps20
  go_wp2
  go_ret
  exact ⟨rfl, rfl⟩
theorem uChk_full (A : Option Addr) (L : List Int) (c : Nat) (w : World) (h : 4 < L.length) :
    Calls Try.prog 20 #[.slice A L.length c] w fun e w' => e = .returned (errOf (ucd L)) ∧ w = w' := by
  rw [ucd_full h]
  generalize L.length = n at *
  have e0 : ((n : Int) == 0) = false := by rw [beq_eq_false_iff_ne]; omega
  have h' : (4 : Int) < n := by omega
  clear h
  go_enter Try.func20, Try.ntmps20
  go_wp2
  go_ret
  exact ⟨rfl, rfl⟩

set_option maxHeartbeats 1600000 in
theorem uChk_main (A : Option Addr) (l : List Int) (c : Nat) (w : World) (hl : Lies w A l) (h0 : ¬ l.length = 0) (h4 : ¬ 4 < l.length) :
    Calls Try.prog 20 #[.slice A l.length c] w fun e w' => e = .returned (errOf (ucd l)) ∧ w = w' := by
  have HL := Lib.hid hl
  have BAD := Lib.hid (fun h : ¬ AllIn l (-20) 20 => ucd_range h0 h4 h)
  have SHP := Lib.hid (fun (h : AllIn l (-20) 20) => ucd_shape h0 h4 h)
  have OK := Lib.hid (fun (h : AllIn l (-20) 20) => ucd_ok h0 h4 h)
  obtain ⟨v, hv⟩ : ∃ v, v = ucd l := ⟨_, rfl⟩
  rw [← hv] at BAD OK SHP ⊢
  obtain ⟨q, hq⟩ : ∃ q, l.length = q + 1 := ⟨l.length - 1, by omega⟩
  obtain ⟨n, hn'⟩ : ∃ n, n = l.length := ⟨_, rfl⟩
  obtain ⟨ad, rfl, _, y1⟩ := hl q (by omega)
  rw [show l.length - 1 = q by omega] at SHP OK
  obtain ⟨z, hz⟩ : ∃ z, z = l.getD q 0 := ⟨_, rfl⟩
  rw [← hz] at SHP OK y1
  rw [← hn'] at h0 h4 ⊢
  have HN := Lib.hid hn'
  have eq1 : (n : Int) - 1 = (q : Int) := by omega
  have qn : q < n := by omega
  have e0 : ((n : Int) == 0) = false := by rw [beq_eq_false_iff_ne]; omega
  have h16 : ¬ (4 : Int) < (n : Int) := by omega
  have EQ := Lib.hid eq1
  clear hl hn' hv hz hq h0 h4 eq1
  go_enter Try.func20, Try.ntmps20
  go_wp2_with fail
  go_loop [15] (fun i => ∃ k : Nat, k ≤ n ∧ i = .int .i64 (k : Int) ∧ ∀ j, j < k → -20 ≤ l.getD j 0 ∧ l.getD j 0 ≤ 20) (fun i => n - (intOf i).toNat)
  case atStart => exact ⟨0, Nat.zero_le _, rfl, fun j hj => absurd hj (by omega)⟩
  case round =>
    obtain ⟨k, hk, rfl, hg⟩ := hrel
    have HG := Lib.hid hg
    clear hg
    by_cases hlt : k < n
    · obtain ⟨ad', e', _, hc⟩ := HL.out k (by have := HN.out; omega)
      obtain rfl := Option.some.inj e'
      obtain ⟨m, hm⟩ : ∃ m, m = l.getD k 0 := ⟨_, rfl⟩
      rw [← hm] at hc
      by_cases h0 : m < -20
      · have E := Lib.hid (BAD.out fun hh => by have := hh k (by have := HN.out; omega); rw [← hm] at this; omega)
        clear hm e' y1
        go_wp2_with fail
        go_ret
        exact ⟨by rw [E.out]; rfl, rfl⟩
      · by_cases h1 : m ≤ 20
        · have GG := Lib.hid (show ∀ j, j < k + 1 → -20 ≤ l.getD j 0 ∧ l.getD j 0 ≤ 20 from fun j hj => by
            by_cases e : j = k
            · subst e; rw [← hm]; omega
            · exact HG.out j (by omega))
          have h2 : ¬ 20 < m := by omega
          clear hm e' y1
          go_wp2_with fail
          go_round
          case rel => exact ⟨k + 1, by omega, by go_num, GG.out⟩
          case measure => simp [intOf]; omega
        · have E := Lib.hid (BAD.out fun hh => by have := hh k (by have := HN.out; omega); rw [← hm] at this; omega)
          have h2 : 20 < m := by omega
          clear hm h1 e' y1
          go_wp2_with fail
          go_ret
          exact ⟨by rw [E.out]; rfl, rfl⟩
    · have all := Lib.hid (show AllIn l (-20) 20 from fun j hj => HG.out j (by have := HN.out; omega))
      have hw : IntKind.i64.wrap ((n : Int) - 1) = (q : Int) := by rw [EQ.out]; exact IntWalk.i64_in _ (by omega)
      by_cases hz : z = 0
      · subst hz
        have E := Lib.hid (SHP.out all.out rfl)
        have eq1 := EQ.out
        go_wp2_with fail
        go_ret
        exact ⟨by rw [E.out]; rfl, rfl⟩
      · have ez : (z == 0) = false := by rw [beq_eq_false_iff_ne]; exact hz
        have E := Lib.hid (OK.out all.out hz)
        have eq1 := EQ.out
        clear hz
        go_wp2_with fail
        go_ret
        exact ⟨by rw [E.out]; rfl, rfl⟩
theorem uChk_any (A : Option Addr) (l : List Int) (c : Nat) (w : World) (hl : Lies w A l) :
    Calls Try.prog 20 #[.slice A l.length c] w fun e w' => e = .returned (errOf (ucd l)) ∧ w = w' := by
  by_cases h0 : l.length = 0
  · exact uChk_none A l c w h0
  · by_cases h : 4 < l.length
    · exact uChk_full A l c w h
    · exact uChk_main A l c w hl h0 h

end Go.Proofs.Ytbdpcpodmmhjaaa
