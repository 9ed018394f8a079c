/- Contracts of package pfaff, third part: Of (a sum over all partitions into pairs), Det. -/
import Derived.Maps.AppendAt
import Derived.RangeFuncWrites
import Derived.Test.YtkebjmapdcbnaaaPfC1
import Derived.Test.YtkebjmapdcbnaaaPfC2
import Derived.Test.YtkebjmapdcbnaaaDeC1
import Derived.Test.YtkebjmapdcbnaaaKeN
namespace Go.Proofs.Ytkebjmapdcbnaaa
open Go.ChangeShapes Go.WideShapes Go.ChangeAt Go.RowKit Go.Shelf
set_option linter.unusedVariables false
attribute [local go_sem] Oper.semAt_some

set_option maxRecDepth 100000 in
set_option maxHeartbeats 800000 in
theorem POf_bad (A : Option Addr) (m : List (List Int)) (n d : Nat) (w : World) (ha : LiesM w A m) (hn : m.length = n) (hz : pfcd m ≠ 0) :
    Calls Try.prog 7 #[.slice A n d] w fun e w' => e = .returned (.tuple #[.int .i64 0, .iface 44 (.int .i64 ((pfcd m : Nat) : Int))]) ∧ Kp w w' := by
  have k1 : Kp w (w.alloc (.cells #[.slice A n d] 22)) := (Kp.rfl' w).new _
  have CK := Lib.hid (PfChk_any A m n d _ (ha.keep k1) hn)
  rw [errOf_ne _ hz] at CK
  have K1 := Lib.hid k1
  generalize pfcd m = z at *
  clear ha hn hz k1
  go_enter Try.func7, Try.ntmps7
  go_wp2_with fail
  refine (CK.out).mono ?_; rintro e w1 ⟨rfl, rfl⟩
  go_wp2_with fail
  exact bodyPost_ret (v := .tuple #[.int .i64 0, .iface 44 (.int .i64 (z : Int))]) (by simp [results, Try.results7, go_sem]) rfl ⟨rfl, K1.out⟩

theorem own_snocP {w : World} {B : Nat} {v : Value} {l : List Int} {x : Int} (h : w.ownsRow B 3 1 v (l.length + 1) (ints l ++ [.int .i64 x])) : Own w B v (l ++ [x]) := by
  unfold Own
  rw [List.length_append, List.length_singleton, ints, List.map_append, List.map_singleton]
  exact h
/-- What is known between two rounds: the matrix and the sum. -/
structure OfI (w0 : World) (Bm Sb n d : Nat) (A : Option Addr) (f : Nat → Nat → Int) (pre : List Orw) (W : World) : Prop where
  m : W.cell? ⟨Bm, 0, none⟩ = some (.slice A n d)
  s : W.cell? ⟨Sb, 0, none⟩ = some (.int .i64 (Zx.osum (Zx.oval f) (pre.map (·.1))))
  fr : W.frozen? ⟨Sb, 0, none⟩ = false
  b : (Zx.osum (Zx.oval f) (pre.map (·.1))).natAbs ≤ pre.length * 729
  kp : Kp w0 W
theorem OfI.below {w0 : World} {Bm Sb n d : Nat} {A : Option Addr} {f : Nat → Nat → Int} {pre : List Orw} {W W' : World} {B : Nat} (h : OfI w0 Bm Sb n d A f pre W) (k : Below B W W') (h0 : Bm < B) (h1 : Sb < B) (h2 : w0.heap.size ≤ B) : OfI w0 Bm Sb n d A f pre W' :=
  ⟨(k.cell (p := ⟨Bm, 0, none⟩) h0).trans h.m, (k.cell (p := ⟨Sb, 0, none⟩) h1).trans h.s, (k.frozen (p := ⟨Sb, 0, none⟩) h1).trans h.fr, h.b, Below.trans h.kp (k.mono h2)⟩
theorem OfI.next {w0 : World} {Bm Sb n d : Nat} {A : Option Addr} {f : Nat → Nat → Int} {pre : List Orw} {W W' : World} {x : Orw} {z : Int} (h : OfI w0 Bm Sb n d A f pre W) (k : Kp W W') (hz : z = Zx.oval f x.1) (hb : (Zx.oval f x.1).natAbs ≤ 729) (h0 : Bm ≠ Sb) (h1 : w0.heap.size ≤ Sb) :
    OfI w0 Bm Sb n d A f (pre ++ [x]) (W'.setCell ⟨Sb, 0, none⟩ (.int .i64 (Zx.osum (Zx.oval f) (pre.map (·.1)) + z))) := by
  have e : Zx.osum (Zx.oval f) ((pre ++ [x]).map (·.1)) = Zx.osum (Zx.oval f) (pre.map (·.1)) + Zx.oval f x.1 := by rw [List.map_append, List.map_singleton, Zx.osum_snoc]
  have c1 := (k.cell (p := ⟨Bm, 0, none⟩) (cell_lt h.m)).trans h.m
  have c2 := (k.cell (p := ⟨Sb, 0, none⟩) (cell_lt h.s)).trans h.s
  have c3 := (k.frozen (p := ⟨Sb, 0, none⟩) (cell_lt h.s)).trans h.fr
  subst hz
  refine ⟨?_, ?_, ?_, ?_, (h.kp.trans k).put (p := ⟨Sb, 0, none⟩) h1 _⟩
  · rw [World.cell?_setCell_other (h := fun e => h0 (by cases e; rfl)), c1]
  · rw [e]; exact World.cell?_setCell_same _ _ _ c2
  · simp [c3]
  · rw [e, List.length_append, List.length_singleton]; have := h.b; omega

theorem kept_put {T : Nat → Prop} {W : World} (p : Addr) (v : Value) (ht : T p.block) : Kept T W (W.setCell p v) := ⟨rfl, rfl, rfl, by simp, fun k _ hn => Below.heap_setCell W p v k fun e => hn (e ▸ ht)⟩
theorem nz_range (k : Nat) : nz (List.range (k + 1)) = nz (List.range k) ++ [(k : Int)] := by unfold nz; rw [List.range_succ, List.map_append, List.map_singleton]

set_option maxRecDepth 100000 in
set_option maxHeartbeats 6400000 in
theorem POf_ok (A : Option Addr) (m : List (List Int)) (f : Nat → Nat → Int) (n d : Nat) (w : World) (s : Pz n f m) (ha : LiesM w A m) :
    Calls Try.prog 7 #[.slice A n d] w fun e w' => e = .returned (.tuple #[.int .i64 (Zx.pf n f), .nilIface]) ∧ Kp w w' := by
  have CK := Lib.hid (fun w' (k : Kp w w') => PfChk_any A m n d w' (ha.keep k) s.len)
  rw [s.code, errOf_zero] at CK
  have n0 := s.n0
  have n6 := s.n6
  have PF := Lib.hid (Zx.prs_pf n0 n6 f)
  have GD := Lib.hid (Zx.prs_good n n0 n6)
  have FW := Lib.hid (Zx.prs_few n n0 n6)
  have AB := Lib.hid s.ab
  rw [s.eq] at ha
  have HA := Lib.hid ha
  clear ha s
  refine (callsIn_wide (n := 12)).1 ?_
  refine callsIn_of_wp_marks Try.func7 rfl trivial ?_ rfl
  simp only [Try.ntmps7, List.size_toArray, List.length_cons, List.length_nil, Nat.reduceAdd, Nat.reduceSub, Array.replicate_succ, Array.replicate_zero, List.push_toArray, List.append_toArray, List.nil_append, List.cons_append]
  gi_wp2
  refine ⟨trivial, ?_⟩
  obtain ⟨w1, hw1⟩ : ∃ x, x = w.alloc (.cells #[.slice A n d] 22) := ⟨_, rfl⟩
  rw [← hw1]
  have k1 : Kp w w1 := by rw [hw1]; exact (Kp.rfl' w).new _
  have m1 : w1.cell? ⟨w.heap.size, 0, none⟩ = some (.slice A n d) := by rw [hw1]; exact (cell_made w _ _ w.heap.size 0 rfl).trans rfl
  have s1 : w1.heap.size = w.heap.size + 1 := by rw [hw1]; simp
  clear hw1
  refine (callsIn_wide.2 (CK.out w1 k1)).mono ?_; rintro e w2 ⟨rfl, rfl⟩
  have K1 := Lib.hid k1
  clear k1
  obtain ⟨i0, hi, hz0, hz1, hz2⟩ := info_parts int_info
  gi_wp2
  gi_loopw [5, 18] (fun v i wr => ∃ k : Nat, k ≤ n ∧ i = .int .i64 (k : Int) ∧ Own wr w1.heap.size v (nz (List.range k)) ∧ Kp w1 wr) (fun _ i _ => n - (intOf i).toNat)
  case atStart => exact ⟨0, Nat.zero_le _, rfl, Own.none _ _, Kp.rfl' _⟩
  case round =>
    obtain ⟨k, hk, rfl, hown, hkw⟩ := hrel
    have HO := Lib.hid hown
    have HK := Lib.hid hkw
    have hsq := hkw.size
    by_cases hlt : k < n
    · have NX := Lib.hid (nz_range k)
      have hlen : (nz (List.range k)).length ≤ 6 := by rw [nz_len, List.length_range]; omega
      generalize nz (List.range k) = row at *
      clear hown hkw
      gi_wp2_with (gi_at_builtin; refine wpListIn_append_own _ rfl _ _ 32 rfl w1.heap.size 3 i0 (.int .i64 0) 1 8 Try.underlying32 hi hz0 hz1 hz2 rfl (by decide) _ _ _ rfl (HO.out.new _) ⟨wr.heap.size, 0, none⟩ 1 1 [.int .i64 (k : Int)] rfl rfl (cell_one_new _ _ _) (by simp [Value.oneCell']) (by unfold maxLen; omega) (by omega) (by simp; omega) ?_; intro v' w' hown' hgrow _)
      have OW := Lib.hid (own_snocP hown')
      have KW := Lib.hid (show Kp w1 w' from own_below (HO.out.new _) (HK.out.new _) (Nat.le_trans hsq (by simp)) hgrow)
      clear hown' hgrow
      gi_wp2
      go_roundw
      case rel => exact ⟨k + 1, by omega, by go_num, by rw [NX.out]; exact OW.out, KW.out⟩
      case measure => simp [intOf]; omega
    · obtain rfl : k = n := by omega
      clear hlt hk
      obtain ⟨wo, hwo⟩ : ∃ x, x = wr := ⟨_, rfl⟩
      subst hwo
      obtain ⟨g, c, rfl, hg, hgc⟩ := own_some hown (by rw [nz_len, List.length_range]; omega)
      obtain ⟨A', c', hv, hl, _⟩ := hown.cap
      injection hv with hv1 hv2 hv3
      subst hv1
      rw [nz_len, List.length_range] at hgc
      have e0 : (nz (List.range k)).length = k := by rw [nz_len, List.length_range]
      rw [e0]
      have gl : g < wo.heap.size := by
        obtain ⟨ad, e, h, _⟩ := hl 0 (by rw [e0]; exact n0)
        cases e; exact h
      clear e0 hv2 hv3 HO
      obtain ⟨w3, hw3⟩ : ∃ x, x = wo.alloc (.cells #[.int .i64 0] 3) := ⟨_, rfl⟩
      have k3 : Kp wo w3 := by rw [hw3]; exact (Kp.rfl' wo).new _
      have c3 : w3.cell? ⟨wo.heap.size, 0, none⟩ = some (.int .i64 0) := by rw [hw3]; exact (cell_made wo _ _ wo.heap.size 0 rfl).trans rfl
      have f3 : w3.frozen? ⟨wo.heap.size, 0, none⟩ = false := by rw [hw3]; simp
      have s3 : w3.heap.size = wo.heap.size + 1 := by rw [hw3]; simp
      gi_wp2
      rw [← hw3]
      clear hw3
      refine ⟨trivial, ?_⟩
      refine (callsIn_wide.2 (pairings_any (some ⟨g, 0, none⟩) k c w3)).mono ?_; rintro e w4 ⟨rfl, hw4⟩
      have k4 : Kp w3 w4 := by rw [hw4]; exact (Kp.rfl' w3).new _
      have c4 : w4.cell? ⟨w3.heap.size, 0, none⟩ = some (.slice (some ⟨g, 0, none⟩) k c) := by rw [hw4]; exact (cell_made w3 _ _ w3.heap.size 0 rfl).trans rfl
      have s4 : w4.heap.size = wo.heap.size + 2 := by rw [hw4]; simp [s3]
      clear hw4
      have hl4 : Lies w4 (some ⟨g, 0, none⟩) (nz (List.range k)) := (hl.keep k3).keep k4
      have I4 : OfI w w.heap.size wo.heap.size k d A f [] w4 := ⟨((HK.out.trans k3).trans k4).cell (p := ⟨w.heap.size, 0, none⟩) (by show w.heap.size < _; omega) |>.trans m1, (k4.cell (p := ⟨wo.heap.size, 0, none⟩) (cell_lt c3)).trans c3, (k4.frozen (p := ⟨wo.heap.size, 0, none⟩) (cell_lt c3)).trans f3, by show (0 : Int).natAbs ≤ _; simp, ((K1.out.trans HK.out).trans k3).trans k4⟩
      have SEQ := Lib.hid (SeqLo.any (m := 11) (pairings_in k n6 (List.range k) k c (some ⟨g, 0, none⟩) w3.heap.size (fun b => b = wo.heap.size ∨ b = w4.heap.size + 1) w4 List.length_range (Nat.le_refl _) hgc (by omega) (fun ad e => by cases e; show ¬ (g = _ ∨ g = _); omega) hl4 c4))
      have s34 : w3.heap.size < w4.heap.size := by omega
      rw [s3]
      rw [s3] at SEQ
      clear c3 f3 k3 k4 c4 hl hl4 hown hkw m1
      gi_wp2
      refine wpIn_rangeLow (F := Fence.wide) (n := 12) rfl (by decide) (gf := 22) (lb := #[.pointer (some ⟨wo.heap.size + 1, 0, none⟩)]) rfl trivial (enters_of Try.func22 (by kernel_rfl) rfl) (T0 := fun b => b = wo.heap.size)
        (fun b h => by omega)
        SEQ.out (fun _ => rfl)
        (fun (pre : List Orw) V => OfI w w.heap.size wo.heap.size k d A f pre V)
        (fun s' V V' h q => h.below q (by omega) (by omega) (by omega))
        I4
        (fun x a' V => OrW (Zx.prs k (List.range k)) x V ∧ a' = { tmps := #[.slice A k d, .pointer (some ⟨w.heap.size, 0, none⟩), .int .i64 0, .nilIface, .nilIface, .slice (some ⟨g, 0, none⟩) k c, u6, .pointer (some ⟨wo.heap.size, 0, none⟩), .slice x.2.1 x.1.length x.2.2, undef, undef, .slice A k d, .nilIface, .nilIface, .bool false, undef, .slice A k d, .int .i64 (k : Int), .int .i64 (k : Int), .bool false, u20, u21, u22, u23, u24, u25, .slice (some ⟨g, 0, none⟩) k c, .func (.func 22) #[] #[.pointer (some ⟨wo.heap.size + 1, 0, none⟩)], .slice x.2.1 x.1.length x.2.2, undef, undef, undef, undef, undef, undef, undef, undef, undef, undef, undef, undef, undef, undef, undef, undef, undef, undef, undef, undef, undef, undef, undef, undef, undef, undef, undef, undef], defers := [] })
        (fun x a' V r o hr ⟨h4, h5⟩ => ⟨⟨h4.1.putLoop hr o, h4.2⟩, h5⟩)
        ?assign ?body ?done
      case assign =>
        rintro pre x V K hlt hs hx hK
        unfold orEnc
        gi_wp2
        exact hK _ _ (Kp.rfl' _) ⟨hx, rfl⟩
      case done =>
        rintro xs V hlt hS hi' hD
        have E := PF.out
        rw [← hS] at E
        have y := hi'.s
        rw [E] at y
        have KD := Lib.hid (Below.trans hi'.kp (below_putObj (B := w.heap.size) V w4.heap.size (.deferred none) (by omega)))
        have HD := Lib.hid hD
        clear hi' hS E hD I4 SEQ
        gi_wp2
        refine ⟨by simp, .inl ⟨_, _, rfl, run_takeDeferred HD.out, ?_⟩⟩
        exact ⟨.tuple #[.int .i64 (Zx.pf k f), .nilIface], by simp [results, Try.results7, go_sem], rfl, KD.out⟩
      case body =>
        rintro pre x a' V hlt ⟨r, hr⟩ hi' ⟨hx, rfl⟩ hlen
        obtain ⟨o, Ao, co⟩ := x
        obtain ⟨hlo, hle, hmem⟩ := hx
        dsimp only at hlo hle hmem
        have hgd := GD.out o hmem
        have hbd := Zx.oval_bound n6 AB.out hgd
        have SGN := Lib.hid (fun (y : Int) (h : Mx.SgnIs (Mx.sp k fun i => (nz o).getD i 0) y) => Zx.pgood_sign hgd h)
        obtain ⟨ol, ev, olt, _, _⟩ := of_decide_eq_true hgd
        have SG := Lib.hid (Sign_any Ao (nz o) k co V hlo (by rw [nz_len, ol]) (by omega))
        have PM := Zx.osg_pm o
        have LB := Lib.hid (fun t (ht : t + t ≤ k) => Nat.le_trans (Zx.ledTo_bound AB.out olt PM t ht) (show 9 ^ t ≤ 729 from Nat.le_trans (Nat.pow_le_pow_right (by decide) (show t ≤ 3 by omega)) (by decide)))
        have LED := Lib.hid (show Zx.oval f o = Zx.ledTo f o (Zx.osg o) (k / 2) from Zx.lead_to f (k / 2) o (Zx.osg o) (by rw [ol]))
        have hx2 := hi'.s
        have hm2 := hi'.m
        have hf2 := hi'.fr
        have SB := Lib.hid hi'.b
        have NX := Lib.hid (fun (V' : World) (z : Int) (q : Kp V V') (hz : z = Zx.oval f o) => hi'.next (x := (o, Ao, co)) q hz hbd (by omega) (by omega))
        have HM := Lib.hid (HA.out.keep hi'.kp)
        have HL := Lib.hid hlo
        have PL : pre.length ≤ 15 := by have := FW.out; omega
        have OB : (Zx.oval f o).natAbs ≤ 729 := hbd
        obtain ⟨S0, hS0⟩ : ∃ S0, S0 = Zx.osum (Zx.oval f) (pre.map (·.1)) := ⟨_, rfl⟩
        rw [← hS0] at hx2 SB NX
        have SB1 : S0.natAbs ≤ 20000 := by have := SB.out; omega
        have OL := Lib.hid ol
        have EV := Lib.hid ev
        have OLT := Lib.hid olt
        rw [ol]
        obtain ⟨sg, hsg⟩ : ∃ sg, sg = Zx.osg o := ⟨_, rfl⟩
        rw [← hsg] at SGN LB LED PM
        obtain ⟨ov, hov⟩ : ∃ ov, ov = Zx.oval f o := ⟨_, rfl⟩
        rw [← hov] at LED NX OB
        have SBb := Lib.hid SB1
        have OBb := Lib.hid OB
        clear hS0 hsg hov hi' hlo hmem hgd hbd hle ol ev olt hlen hr hlt SEQ I4 PF GD FW CK SB PL
        refine wpIn_block ?_
        gi_wp2
        refine ⟨trivial, ?_⟩
        refine (CallsIn.inRound _ (callsIn_wide.2 SG.out)).mono ?_; rintro e V1 ⟨y, rfl, hy, kv1⟩
        have ey := SGN.out y hy
        subst ey
        have KV1 := Lib.hid kv1
        clear hy kv1 SGN SG
        gi_wp2
        gi_loopw [9, 10] (fun v i wq => ∃ t q : Nat, q = t + t ∧ q ≤ k ∧ i = .int .i64 (q : Int) ∧ v = .int .i64 (Zx.ledTo f o y t) ∧ Kp V1 wq) (fun _ i _ => k - (intOf i).toNat)
        case atStart => exact ⟨0, 0, rfl, Nat.zero_le _, rfl, rfl, Kp.rfl' _⟩
        case round =>
          obtain ⟨t, q, hq, hqk, rfl, rfl, hkq⟩ := hrel
          have KQ := Lib.hid hkq
          by_cases hlt : q < k
          · obtain ⟨q1, hq1⟩ : ∃ q1 : Nat, q1 = q + 1 := ⟨_, rfl⟩
            have hk1 : q1 < k := by have := EV.out; omega
            obtain ⟨ado, rfl, _, z0⟩ := (HL.out.keep (KV1.out.trans hkq)).num (k := q) (by rw [OL.out]; exact hlt)
            obtain ⟨ado', ea, _, z1⟩ := (HL.out.keep (KV1.out.trans hkq)).num (k := q1) (by rw [OL.out]; exact hk1)
            obtain rfl := Option.some.inj ea
            have a0 := OLT.out q hlt
            have b0 := OLT.out q1 hk1
            have ST := Lib.hid (show Zx.ledTo f o y (t + 1) = Zx.ledTo f o y t * f (o.getD q 0) (o.getD q1 0) by rw [hq1, hq]; rfl)
            have B1 := LB.out t (by omega)
            have B2 := LB.out (t + 1) (by omega)
            rw [ST.out] at B2
            generalize Zx.ledTo f o y t = P at *
            generalize o.getD q 0 = a at *
            generalize o.getD q1 0 = b at *
            obtain ⟨adm, Ar, dr, rfl, _, xr, _, hR⟩ := (HM.out.keep (KV1.out.trans hkq)).row a0
            obtain ⟨adr, rfl, _, xe⟩ := hR.el b0
            have m0 := ((KV1.out.trans hkq).cell (p := ⟨w.heap.size, 0, none⟩) (cell_lt hm2)).trans hm2
            have hw1 : IntKind.i64.wrap (P * f a b) = P * f a b := IntWalk.i64_in _ (by omega)
            have hw2 : (q : Int) + 1 = (q1 : Int) := by omega
            have hw3 : IntKind.i64.wrap (q1 : Int) = (q1 : Int) := IntWalk.i64_in _ (by omega)
            have QQ := Lib.hid hq
            have hw4 : IntKind.i64.wrap ((q : Int) + 2) = (q : Int) + 2 := IntWalk.i64_in _ (by omega)
            have Q1 := Lib.hid hq1
            generalize f a b = c0 at *
            clear hq hq1 hkq hR B1 B2 ea hm2 hx2 hf2
            gi_wp2
            refine region_tail 16 (by kernel_rfl) (by kernel_rfl) (by kernel_rfl) ?_
            simp only [List.take_succ_cons, List.take_zero, List.drop_succ_cons, List.drop_zero]
            repeat still_step
            refine wpStill_nil ?_
            go_wp2_with fail
            refine ⟨rfl, ?_⟩
            gi_wp2
            go_roundw
            case rel => exact ⟨t + 1, q + 2, by rw [QQ.out]; omega, by have := Q1.out; omega, by go_num, by rw [ST.out], KQ.out.drewN 1⟩
            case measure => simp [intOf]; omega
          · have EN : y = y := rfl
            have E := Lib.hid (show Zx.ledTo f o y t = ov by rw [LED.out, show t = k / 2 by omega])
            rw [E.out]
            have u0 := ((KV1.out.trans hkq).cell (p := ⟨wo.heap.size, 0, none⟩) (cell_lt hx2)).trans hx2
            have u1 := ((KV1.out.trans hkq).frozen (p := ⟨wo.heap.size, 0, none⟩) (cell_lt hx2)).trans hf2
            have hw1 : IntKind.i64.wrap (S0 + ov) = S0 + ov := IntWalk.i64_in _ (by have := SBb.out; have := OBb.out; omega)
            have NE : w.heap.size ≠ wo.heap.size := by omega
            have NV := Lib.hid (NX.out wr ov (KV1.out.trans hkq) rfl)
            have KT := Lib.hid ((Kept.of (T := fun b => b = wo.heap.size) (KV1.out.trans hkq)).trans (kept_put ⟨wo.heap.size, 0, none⟩ (.int .i64 (S0 + ov)) rfl))
            clear hkq hx2 hm2 hf2
            gi_wp2
            exact ⟨KT.out, NV.out⟩
end Go.Proofs.Ytkebjmapdcbnaaa
