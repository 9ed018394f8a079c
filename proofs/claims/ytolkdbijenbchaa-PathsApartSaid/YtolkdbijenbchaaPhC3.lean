/- Contracts of package paths, third part: full, the iterator, families, Apart. -/
import Derived.Test.YtolkdbijenbchaaPhC2
import Derived.Shelf.RegionOpen
import Derived.ChangeKeysEq
namespace Go.Proofs.Ytolkdbijenbchaa
open Go.ChangeShapes Go.WideShapes Go.ChangeAt Go.RowKit Go.Shelf
set_option linter.unusedVariables false
attribute [local go_sem] Oper.semAt_some

theorem info_h : (Try.prog.info? 38).map (·.size) = some 3 := by kernel_rfl
/-- Heights above all others, those below k written. -/
def ab (k : Nat) : List Int := Mx.row 3 fun j => if j < k then 7 + (j : Int) else 0
theorem ab_set {k : Nat} (hk : k < 3) : (ab k).set k (7 + (k : Int)) = ab (k + 1) := by
  unfold ab
  rw [Mx.row_set]
  refine Mx.row_ext fun j hj => ?_
  by_cases e : j = k
  · rw [if_pos e, if_pos (by omega), e]
  · rw [if_neg e]
    by_cases h2 : j < k
    · rw [if_pos h2, if_pos (by omega)]
    · rw [if_neg h2, if_neg (by omega)]
set_option maxRecDepth 100000 in
set_option maxHeartbeats 1600000 in
theorem full_any (A : Option Addr) (m : List Nat) (n d : Nat) (w : World) (hl : Lies w A (nz m)) (hn : m.length = n) (h1 : 1 ≤ n) (h3 : n ≤ 3) (a b c : Nat) (hp : Zx.pad m = [a, b, c]) :
    Calls Try.prog 15 #[.slice A n d] w fun e w' => e = .returned (hv a b c) ∧ Kp w w' := by
  have HL := Lib.hid hl
  have PD := Lib.hid (show (ab 3).take 0 ++ nz m ++ (ab 3).drop (0 + n) = hr a b c by
    rw [List.take_zero, List.nil_append, show (ab 3) = nz [7, 8, 9] from rfl, Nat.zero_add, ← hn, show (nz [7, 8, 9]).drop m.length = nz ([7, 8, 9].drop m.length) by unfold nz; rw [List.map_drop],
      show nz m ++ nz ([7, 8, 9].drop m.length) = nz (Zx.pad m) by unfold nz Zx.pad; rw [List.map_append], hp]; rfl)
  have HN := Lib.hid hn
  clear hl hn hp
  go_enter Try.func15, Try.ntmps15
  go_wp2_with fail
  go_loopw [5] (fun i wr => ∃ k : Nat, k ≤ 3 ∧ i = .int .i64 (k : Int) ∧ Cl 38 wr w.heap.size [0, 0, 0] ∧ Cl 38 wr (w.heap.size + 1) (ab k) ∧ Kp w wr) (fun i _ => 3 - (intOf i).toNat)
  case atStart =>
    refine ⟨0, Nat.zero_le _, rfl, (Cl.made w [0, 0, 0]).new _, ?_, ((Kp.rfl' w).new _).new _⟩
    have : Cl 38 ((w.alloc (.cells (ints [0, 0, 0]).toArray 38)).alloc (.cells (ints [0, 0, 0]).toArray 38)) _ [0, 0, 0] := Cl.made (ty := 38) (w.alloc (.cells (ints [0, 0, 0]).toArray 38)) [0, 0, 0]
    rwa [World.size_alloc] at this
  case round =>
    obtain ⟨k, hk, rfl, h1', h2, h3'⟩ := hrel
    have K1 := Lib.hid h1'
    have K2 := Lib.hid h2
    have K3 := Lib.hid h3'
    by_cases hlt : k < 3
    · have x2 := h2.cell k (by show k < 3; exact hlt)
      have x3 := h2.free k
      have hk3 : (k : Int) < 3 := by omega
      have hw : IntKind.i64.wrap (7 + (k : Int)) = 7 + (k : Int) := IntWalk.i64_in _ (by omega)
      have P2 := Lib.hid (show Cl 38 (wr.setCell ⟨w.heap.size + 1, k, none⟩ (.int .i64 (7 + (k : Int)))) (w.heap.size + 1) (ab (k + 1)) by
        have := h2.put k (7 + (k : Int))
        rwa [ab_set hlt] at this)
      have P1 := Lib.hid (show Cl 38 (wr.setCell ⟨w.heap.size + 1, k, none⟩ (.int .i64 (7 + (k : Int)))) w.heap.size [0, 0, 0] from h1'.far (by show _ ≠ w.heap.size + 1; omega) _)
      have P3 := Lib.hid (show Kp w (wr.setCell ⟨w.heap.size + 1, k, none⟩ (.int .i64 (7 + (k : Int)))) from h3'.put (by show _ ≤ w.heap.size + 1; omega) _)
      generalize (ab k).getD k 0 = y at *
      clear h1' h2 h3' K1 K2 K3
      go_wp2_with fail
      go_roundw
      case rel => exact ⟨k + 1, by omega, by go_num, P1.out, P2.out, P3.out⟩
      case measure => simp [intOf]; omega
    · have hk3 : k = 3 := by omega
      rw [hk3] at K2
      have hge : 3 ≤ (k : Int) := by omega
      have CP := Lib.hid (fun (rty : TypeId) => cl_copy wr 38 (w.heap.size + 1) 0 3 3 A (nz m) n d rty (ab 3) K2.out (by rw [nz_len, HN.out]) (by show 0 + n ≤ 3; omega) (HL.out.keep K3.out) h1 h3)
      rw [PD.out] at CP
      have E2 := Lib.hid (show Cl 38 (wr.setRow (w.heap.size + 1) (ints (hr a b c)).toArray) (w.heap.size + 1) (hr a b c) from K2.out.setRow)
      have E1 := Lib.hid (show Cl 38 (wr.setRow (w.heap.size + 1) (ints (hr a b c)).toArray) w.heap.size [0, 0, 0] from K1.out.apart (by omega) _)
      have E3 := Lib.hid (show Kp w (wr.setRow (w.heap.size + 1) (ints (hr a b c)).toArray) from bkp_setRow K3.out (by omega) _)
      clear h1' h2 h3' K1 K2 K3 hk3 hk hlt
      obtain ⟨W4, hW4⟩ : ∃ x, x = wr.setRow (w.heap.size + 1) (ints (hr a b c)).toArray := ⟨_, rfl⟩
      rw [← hW4] at E1 E2 E3 CP
      have E5 := Lib.hid (show Kp w (W4.setRow w.heap.size (ints (hr a b c)).toArray) from bkp_setRow E3.out (Nat.le_refl _) _)
      have E4 := Lib.hid (show Cl 38 (W4.setRow w.heap.size (ints (hr a b c)).toArray) w.heap.size (hr a b c) from E1.out.setRow)
      clear hW4
      go_wp2_with (first
        | rw [CP.out]
        | refine wpList_load_cl 38 3 3 Try.underlying38 rfl _ rfl _ rfl (hr a b c) E2.out info_h ?_
        | refine wpList_store_cl 38 rfl _ _ rfl _ rfl (hr a b c) rfl [0, 0, 0] E1.out rfl info_h ?_)
      exact bodyPost_ret (v := .agg (ints (hr a b c)).toArray) (results_cl 38 3 3 Try.underlying38 rfl _ rfl E4.out info_h) rfl ⟨rfl, E5.out⟩

set_option maxRecDepth 100000 in
set_option maxHeartbeats 1600000 in
theorem rises_in (n : Nat) (B0 B1 a b c t u v : Nat) (st : Zx.H3 [t, u, v]) (sh : Zx.H3 [a, b, c]) (T : Nat → Prop) (t0 : ¬ T B0) (t1 : ¬ T B1) (w0 : World) (c0 : Cl 38 w0 B0 (hr a b c)) (c1 : Cl 38 w0 B1 (hr t u v)) :
    SeqLo Fence.wide n Try.prog 26 #[.pointer (some ⟨B0, 0, none⟩), .pointer (some ⟨B1, 0, none⟩)] hEnc (fun x _ => Zx.H3 x) T (fun xs => xs = Zx.rsn [t, u, v] 3 0 [a, b, c]) 1000 w0 := by
  intro l J W hW hT hJ hY h0
  have IH := Lib.hid (rise0 l T W.heap.size 1000 J ⟨hT, hJ, fun pre x W1 h1 h2 h3 h4 => yieldAt_any 0 (hY pre x W1 h1 h2 h3 h4)⟩ t u v a b c st sh [] W h0 (Nat.le_refl _) (by
    have := Zx.rsn_len st 3 0 [a, b, c]
    show 0 + _ ≤ _
    omega))
  have y0 := (c0.keep hW).x0
  have y1 := (c0.keep hW).x1
  have y2 := (c0.keep hW).x2
  have z0 := (c1.keep hW).x0
  have z1 := (c1.keep hW).x1
  have z2 := (c1.keep hW).x2
  rw [List.nil_append] at IH
  clear hT hJ hY h0 c0 c1 hW st sh t0 t1
  refine callsIn_of_wp Try.func26 rfl trivial ?_ rfl
  simp only [Try.ntmps26, List.size_toArray, List.length_cons, List.length_nil, Nat.reduceAdd, Nat.reduceSub, Array.replicate_succ, Array.replicate_zero, List.push_toArray, List.append_toArray, List.nil_append, List.cons_append]
  gi_wp2
  refine ⟨trivial, (fun h => by cases h), ?_⟩
  refine (callsIn_wide.2 (callsIn_wide.1 IH.out)).mono ?_
  rintro e W3 ⟨rfl, j3, k3⟩
  have J3 := Lib.hid j3
  clear j3 k3 IH y0 y1 y2 z0 z1 z2
  gi_wp2
  go_end0
  exact ⟨⟨_, rfl⟩, _, rfl, J3.out⟩
end Go.Proofs.Ytolkdbijenbchaa
