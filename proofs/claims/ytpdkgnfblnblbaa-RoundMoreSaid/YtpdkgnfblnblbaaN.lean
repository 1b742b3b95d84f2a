/- What is left of lots and samples: contract. Condition: the round is valid. -/
import Derived.Test.YtpdkgnfblnblbaaM
namespace Go.Proofs.Ytpdkgnfblnblbaa
open Go.RowKit Go.Shelf
attribute [local irreducible] arrV wpQuiet
attribute [local go_sem] Oper.semAt_some
set_option maxRecDepth 100000 in
set_option maxHeartbeats 8000000 in
theorem narrow_any (n : Nat) (p : Rp) (R : Rd) (off : Nat → Bool) (w : World) (hR : RdOk R) (hV : RdV n w p R) (hn : n ≤ w.heap.size) :
    Calls Try.prog 62 #[.agg #[.slice p.la R.lots.length p.lc, .slice p.sa R.smp.length p.sc, .int .i64 R.sp, .slice p.ba R.labs.length p.bc, .bool (off 0), .bool (off 1), .bool (off 2), .bool (off 3), .bool (off 4), .bool (off 5)]] w fun e w' => NarP R off w e w' ∧ Below w.heap.size w w' := by
  have hcl := fun w' (h : Below w.heap.size w w') => clone_any n (lotsV p R) R.lots w' (by have := hR.l4; omega) hR.l0 (hV.lots.same (.below hn h))
  have HCL := Lib.hid hcl
  have HRS := Lib.hid fun s (hs : s < R.smp.length) w' (h : Below w.heap.size w w') => readings_any n p R off s w' hR hs (hV.labs.same (.below hn h)) (Nat.le_trans hn h.size)
  have HOK := Lib.hid hR
  have HV := Lib.hid hV
  have HX := Lib.hid (heap_alloc_new w (.cells #[.slice p.la R.lots.length p.lc, .slice p.sa R.smp.length p.sc, .int .i64 R.sp, .slice p.ba R.labs.length p.bc, .bool (off 0), .bool (off 1), .bool (off 2), .bool (off 3), .bool (off 4), .bool (off 5)] 83))
  have HB := Lib.hid (box_below w (.cells #[.slice p.la R.lots.length p.lc, .slice p.sa R.smp.length p.sc, .int .i64 R.sp, .slice p.ba R.labs.length p.bc, .bool (off 0), .bool (off 1), .bool (off 2), .bool (off 3), .bool (off 4), .bool (off 5)] 83))
  have HN := Lib.hid hn
  clear hcl hR hV hn
  unfold lotsV at HCL
  refine (callsIn_wide (n := 0)).1 ?_
  refine callsIn_of_wp_marks Try.func62 rfl trivial ?_ rfl
  simp only [Try.ntmps62, List.size_toArray, List.length_cons, List.length_nil, Nat.reduceAdd, Nat.reduceSub, Array.replicate_succ, Array.replicate_zero, List.push_toArray, List.append_toArray, List.nil_append, List.cons_append]
  gi_wp2_with fail
  refine wpIn_wide.2 (wp_scope_straight ((wpIn_wide (n := 0)).1 ?_))
  gi_wp2_with fail
  generalize World.alloc w _ = W at *
  refine ⟨trivial, rfl, ?_⟩
  refine (callsIn_wide.2 (HCL.out W HB.out)).mono ?_
  rintro e W1 ⟨⟨lv, rfl, hlo⟩, hb⟩
  obtain ⟨gl, cl, rfl, hgl, hgl2, -⟩ := own_get hlo HOK.out.l0
  have hw0 := lt_of_block HX.out
  replace HX := Lib.hid ((hb.block _ (lt_of_block HX.out)).trans HX.out)
  replace HB := Lib.hid (below_to HB.out hb)
  have HLO : Hid (W1.ownsRow w.heap.size 46 2 (.slice (some ⟨gl, 0, none⟩) R.lots.length cl) R.lots.length (flatR (lotsF R off 0))) := Lib.hid (ownsRow_mono (by omega) hlo)
  have hglw : w.heap.size < gl := by omega
  obtain ⟨n0, hn0⟩ : ∃ n0, n0 = W1.heap.size := ⟨_, rfl⟩
  have HGN : Hid (gl < n0) := Lib.hid (by omega)
  have HWN : Hid (w.heap.size ≤ n0) := Lib.hid (by omega)
  have HN0 : Hid (n0 ≤ W1.heap.size) := Lib.hid (by omega)
  clear hb hlo hgl hgl2 HCL hw0 hn0
  have a0 := cell_of_row W1 w.heap.size 0 _ _ _ HX.out
  have a1 := cell_of_row W1 w.heap.size 1 _ _ _ HX.out
  have a2 := cell_of_row W1 w.heap.size 2 _ _ _ HX.out
  have a3 := cell_of_row W1 w.heap.size 3 _ _ _ HX.out
  simp only [List.getElem?_toArray, List.getElem?_cons_zero, List.getElem?_cons_succ] at a0 a1 a2 a3
  have la := lt_of_block HX.out
  gi_wp2_with fail
  refine wpIn_label ?_
  gi_wp2_with fail
  refine wpIn_loop (fun a' wr => ∃ (u4 u5 u6 u7 u8 u9 u10 u11 u12 u13 u17 u18 u19 u20 u21 u22 u23 u24 u25 u26 u27 u28 u29 u30 u31 u32 u33 u34 u35 u36 u37 u38 u39 u40 u41 u42 u43 u44 u45 u46 u47 u48 u49 u50 u51 u52 u53 u54 u55 u56 u57 u58 u59 sv : Value) (q : Nat) (ds : List Deferred), q ≤ R.smp.length ∧ Hid (∀ s, s < q → okG (valR R off s) = true) ∧ Hid (wr.heap[w.heap.size]? = some (.cells #[.slice p.la R.lots.length p.lc, .slice p.sa R.smp.length p.sc, .int .i64 R.sp, .slice p.ba R.labs.length p.bc, .bool (off 0), .bool (off 1), .bool (off 2), .bool (off 3), .bool (off 4), .bool (off 5)] 83 (0, 0))) ∧ Hid (wr.ownsRow w.heap.size 46 2 (.slice (some ⟨gl, 0, none⟩) R.lots.length cl) R.lots.length (flatR (lotsF R off q))) ∧ Hid (wr.ownsRow (gl + 1) 46 2 sv q (flatR (valsF R off q))) ∧ Hid (Below w.heap.size w wr) ∧ Hid (MarksOk n0 wr.heap.size ds wr) ∧ Hid (n0 ≤ wr.heap.size) ∧ a' = { tmps := #[.agg #[.slice p.la R.lots.length p.lc, .slice p.sa R.smp.length p.sc, .int .i64 R.sp, .slice p.ba R.labs.length p.bc, .bool (off 0), .bool (off 1), .bool (off 2), .bool (off 3), .bool (off 4), .bool (off 5)], .pointer (some ⟨w.heap.size, 0, none⟩), .slice (some ⟨gl, 0, none⟩) R.lots.length cl, sv, u4, u5, u6, u7, u8, u9, u10, u11, u12, u13, .slice p.sa R.smp.length p.sc, .int .i64 R.smp.length, .int .i64 q, u17, u18, u19, u20, u21, u22, u23, u24, u25, u26, u27, u28, u29, u30, u31, u32, u33, u34, u35, u36, u37, u38, u39, u40, u41, u42, u43, u44, u45, u46, u47, u48, u49, u50, u51, u52, u53, u54, u55, u56, u57, u58, u59, undef], defers := ds }) (fun a' _ => R.smp.length - (intOf (a'.tmps.getD 16 undef)).toNat) ?start ?round
  case start => exact ⟨_, _, _, _, _, _, _, _, _, _, _, _, _, _, _, _, _, _, _, _, _, _, _, _, _, _, _, _, _, _, _, _, _, _, _, _, _, _, _, _, _, _, _, _, _, _, _, _, _, _, _, _, _, .slice none 0 0, 0, [], Nat.zero_le _, Lib.hid (fun s hs => absurd hs (Nat.not_lt_zero _)), HX, HLO, Lib.hid (World.ownsRow_nil _ _ _ _), HB, Lib.hid trivial, HN0, rfl⟩
  case round =>
    clear HX HLO HB la a0 a1 a2 a3 HN0
    rintro _ wr ⟨u4, u5, u6, u7, u8, u9, u10, u11, u12, u13, u17, u18, u19, u20, u21, u22, u23, u24, u25, u26, u27, u28, u29, u30, u31, u32, u33, u34, u35, u36, u37, u38, u39, u40, u41, u42, u43, u44, u45, u46, u47, u48, u49, u50, u51, u52, u53, u54, u55, u56, u57, u58, u59, sv, q, ds, hq, HOKS, HX, HLO, HSO, HB, HMK, HNN, rfl⟩
    have la := lt_of_block HX.out
    have a0 := cell_of_row wr w.heap.size 0 _ _ _ HX.out
    have a1 := cell_of_row wr w.heap.size 1 _ _ _ HX.out
    have a2 := cell_of_row wr w.heap.size 2 _ _ _ HX.out
    have a3 := cell_of_row wr w.heap.size 3 _ _ _ HX.out
    simp only [List.getElem?_toArray, List.getElem?_cons_zero, List.getElem?_cons_succ] at a0 a1 a2 a3
    by_cases hlt : q < R.smp.length
    · have hqn : (q : Int) < R.smp.length := by omega
      have hwk : IntKind.i64.wrap ((q : Int) + 1) = (q : Int) + 1 := IntWalk.i64_in _ (by have := HOK.out.s8; omega)
      obtain ⟨sa', sc', hsv, hsp⟩ := HV.out.smp
      unfold smpV at hsv
      simp only [Value.slice.injEq, true_and] at hsv
      obtain ⟨hs1, hs2⟩ := hsv
      obtain ⟨sb, so, hsab, hsbn, hsc⟩ := hsp (by omega)
      rw [hs1.symm] at hsab
      have hLN := HOK.out.lotN hlt
      obtain ⟨lA, lC, hlv, hlp⟩ := HV.out.lots
      unfold lotsV at hlv
      simp only [Value.slice.injEq, true_and] at hlv
      obtain ⟨hl1, hl2⟩ := hlv
      obtain ⟨lbk, lo, hlab, hlbn, hlc⟩ := hlp (by omega)
      rw [hl1.symm] at hlab
      have hnw : n ≤ w.heap.size := HN.out
      have p1 := (HB.out.cell (p := ⟨sb, so + q, none⟩) (show sb < w.heap.size by omega)).trans (hsc q hlt)
      rw [← hLN.2] at p1
      obtain ⟨pla, plc, psa, psc, pba, pbc⟩ := p
      simp only at hsab hlab
      subst hsab hlab
      have p2 := (HB.out.cell (p := ⟨lbk, lo + lotN R q * 2, none⟩) (show lbk < w.heap.size by omega)).trans (hlc (lotN R q) hLN.1).1
      have p3 := (HB.out.cell (p := ⟨lbk, lo + lotN R q * 2 + 1, none⟩) (show lbk < w.heap.size by omega)).trans (hlc (lotN R q) hLN.1).2
      have hLB := Lib.hid (HOK.out.lot _ (rg_mem hLN.1))
      have hSP := Lib.hid HOK.out.sp
      have HLN := Lib.hid hLN.1
      have hLnat : (lotN R q : Int) < R.lots.length := by have := hLN.1; omega
      have hLnn := hLN.1
      have HV0 : Hid (val0 R q = ⟨(rg R.lots (lotN R q)).lo - R.sp, (rg R.lots (lotN R q)).hi + R.sp⟩) := Lib.hid rfl
      have HWI := Lib.hid fun w => wider_any (rg R.lots (lotN R q)).lo (rg R.lots (lotN R q)).hi R.sp w (IntWalk.i64_in _ (by have := hLB.out; have := hSP.out; omega)) (IntWalk.i64_in _ (by have := hLB.out; have := hSP.out; omega))
      have HRQ := Lib.hid (HRS.out q hlt)
      have HK0 := Lib.hid (val0_ok HOK.out hlt)
      have HSTEP : Hid (lotsF R off (q + 1) = (lotsF R off q).set (lotN R q) (ands (rg (lotsF R off q) (lotN R q)) (wid (valR R off q) R.sp))) := Lib.hid (lotsF_succ R off q)
      have HLL := Lib.hid (lotsF_len R off q)
      clear hs1 hs2 hsp hsc hl1 hl2 hlp hlc hLN hsbn hlbn
      obtain ⟨Ln, hLn⟩ : ∃ Ln, Ln = lotN R q := ⟨_, rfl⟩
      rw [← hLn] at p1 p2 p3 hLB HLN hLnat HV0 HWI HSTEP hLnn
      have HLE := Lib.hid hLn
      clear hLn
      generalize (rg R.lots Ln).lo = L0 at *
      generalize (rg R.lots Ln).hi = H0 at *
      have lp1 := block_lt_of_cell p1
      have lp2 := block_lt_of_cell p2
      gi_wp2_with fail
      clear a0 a1 a2 a3 p1
      have HC : Hid (∀ w', Below wr.heap.size wr w' → w'.cell? ⟨w.heap.size, 0, none⟩ = some (.slice (some ⟨lbk, lo, none⟩) R.lots.length plc) ∧ w'.cell? ⟨w.heap.size, 2, none⟩ = some (.int .i64 R.sp) ∧ w'.cell? ⟨lbk, lo + Ln * 2, none⟩ = some (.int .i64 L0) ∧ w'.cell? ⟨lbk, lo + Ln * 2 + 1, none⟩ = some (.int .i64 H0) ∧ w.heap.size < w'.heap.size ∧ lbk < w'.heap.size) := Lib.hid fun w' hS => by
        have hx := (hS.block _ la).trans HX.out
        exact ⟨cell_of_row w' _ 0 _ _ _ hx, cell_of_row w' _ 2 _ _ _ hx, (hS.cell (p := ⟨lbk, lo + Ln * 2, none⟩) lp2).trans p2, (hS.cell (p := ⟨lbk, lo + Ln * 2 + 1, none⟩) lp2).trans p3, lt_of_block hx, Nat.lt_of_lt_of_le lp2 hS.size⟩
      clear p2 p3
      refine wpIn_wide.2 (wp_region_noPanic (wp_region_acts (fun w' => Below wr.heap.size wr w') (fun _ _ h hb => grow_to h hb) (below_drawn _) (by decide +kernel) (fun _ _ _ _ _ h => h)
        [.take 0, .take 1, .take 2, .take 3, .take 4, .take 5, .take 6, .take 7, .take 8, .float 10, .call 9, .join] [11] (by decide +kernel) ?_))
      iterate 9
        (refine GWalk.takes rfl rfl ?_; apply Exists.intro; refine ⟨fun w' hS => ?_, ?_⟩; (obtain ⟨z1, z2, z3, z4, z5, z6⟩ := HC.out w' hS; clear hS; go_simp; with_reducible rfl); simp only [List.getElem_toArray, List.getElem_cons_succ, List.getElem_cons_zero, Act.put, List.setIfInBounds_toArray, List.set_cons_zero, List.set_cons_succ])
      refine GWalk.floats (.cells #[.int .i64 0, .int .i64 0] 46) (fun b => .pointer (some ⟨b, 0, none⟩)) rfl rfl rfl (fun w1 => by kernel_rfl) ?_
      simp only [List.nil_append, List.cons_append]
      refine GWalk.calls rfl rfl ?_; apply Exists.intro; apply Exists.intro; refine ⟨fun w' hS => ?_, fun v1 hb hS hO => ?_⟩; (clear hS; go_simp; exact ⟨rfl, rfl⟩)
      refine (HWI.out v1).mono ?_
      rintro e v2 ⟨rfl, hb2⟩
      refine ⟨_, rfl, hb2, grow_to hS hb2, ?_⟩
      simp only [List.getElem_toArray, List.getElem_cons_succ, List.getElem_cons_zero, Act.put, List.setIfInBounds_toArray, List.set_cons_zero, List.set_cons_succ]
      have hS2 := grow_to hS hb2
      clear hb hb2 hS hO
      refine GWalk.joins fun v3 b6 hb hj1 hj2 hj3 hj4 => ?_
      simp only [List.getElem_toArray, List.getElem_cons_succ, List.getElem_cons_zero, Act.put, List.setIfInBounds_toArray, List.set_cons_zero, List.set_cons_succ]
      have hS3 := grow_to hS2 hb
      clear hb hS2
      refine GWalk.fin fun v4 hb4 hS4 => ?_
      have hx4 := (hb4.block _ (lt_of_block hj4)).trans hj4
      refine Tail.put46 rfl rfl (.tmp 6) (.tmp 30) rfl b6 rfl _ _ (L0 - R.sp) (H0 + R.sp) rfl hx4 ?_
      intro v5 hp5 hx5
      refine ⟨hp5.below hS4 hj1, ?_⟩
      refine Tail.done (NoPanic.normal ?_)
      simp only [List.getElem_toArray, List.getElem_cons_succ, List.getElem_cons_zero, Act.put, List.setIfInBounds_toArray, List.set_cons_zero, List.set_cons_succ]
      have hW5 : Below wr.heap.size wr v5 := hp5.below hS4 hj1
      have HX6 := Lib.hid hx5
      have HJ1 := Lib.hid hj1
      have HSO0 := HSO
      replace HX := Lib.hid ((hW5.block _ la).trans HX.out)
      replace HLO := Lib.hid (row_kept HLO.out hW5)
      replace HSO := Lib.hid (row_kept HSO.out hW5)
      replace HB := Lib.hid (below_to HB.out hW5)
      replace HMK := Lib.hid ((HMK.out.same fun k _ hk2 => hW5.block k hk2).up hW5.size)
      have HNN5 := Lib.hid (Nat.le_trans HNN.out hW5.size)
      have h65 := lt_of_block hx5
      have HNN4 := HNN.out
      have hb6n : n0 ≤ b6 := Nat.le_trans HNN.out hj1
      clear hS4 hb4 hx4 hp5 hj1 hj2 hj3 hj4 hS3 hx5 hW5 HC HWI
      have la := lt_of_block HX.out
      have c0 := cell_of_row v5 w.heap.size 0 _ _ _ HX.out
      have c1 := cell_of_row v5 w.heap.size 1 _ _ _ HX.out
      have c2 := cell_of_row v5 w.heap.size 2 _ _ _ HX.out
      have c3 := cell_of_row v5 w.heap.size 3 _ _ _ HX.out
      have c4 := cell_of_row v5 w.heap.size 4 _ _ _ HX.out
      have c5 := cell_of_row v5 w.heap.size 5 _ _ _ HX.out
      have c6 := cell_of_row v5 w.heap.size 6 _ _ _ HX.out
      have c7 := cell_of_row v5 w.heap.size 7 _ _ _ HX.out
      have c8 := cell_of_row v5 w.heap.size 8 _ _ _ HX.out
      have c9 := cell_of_row v5 w.heap.size 9 _ _ _ HX.out
      simp only [List.getElem?_toArray, List.getElem?_cons_zero, List.getElem?_cons_succ] at c0 c1 c2 c3 c4 c5 c6 c7 c8 c9
      gi_wp2_with fail
      refine ⟨trivial, rfl, ?_⟩
      refine (callsIn_wide.2 (HRQ.out v5 HB.out)).mono ?_
      rintro e w1 ⟨Bt, Bs, rfl, hb, hm1, hm2, hm3, hm4, hseq⟩
      have hbs := hb.size
      have hSVB : ∀ g, sv.ownBlock = some g → g < b6 := fun g hg => Nat.lt_of_lt_of_le (own_lt HSO0.out hg).2 HJ1.out
      have HSVB := Lib.hid hSVB
      have HX6b := Lib.hid ((hb.block _ (lt_of_block HX6.out)).trans HX6.out)
      replace HX := Lib.hid ((hb.block _ (lt_of_block HX.out)).trans HX.out)
      replace HLO := Lib.hid (row_kept HLO.out hb)
      replace HSO := Lib.hid (row_kept HSO.out hb)
      replace HB := Lib.hid (below_to HB.out hb)
      replace HMK := Lib.hid ((HMK.out.same fun k _ hk2 => hb.block k hk2).up hb.size)
      have HSEQ := Lib.hid hseq
      have hglb : gl < b6 := by have := HGN.out; omega
      clear hb hseq c0 c1 c2 c3 c4 c5 c6 c7 c8 c9 hSVB HX6 HRQ HNN5
      gi_wp2
      refine wp_rangeD rfl (fun _ _ => rfl) HSEQ.out (Below.refl _ w1) (fun _ => rfl) (fun k => k = b6) ?t0 ?hc
        (fun T pre A => T b6 ∧ A.heap[b6]? = some (.cells #[.int .i64 (pre.foldl ands (val0 R q)).lo, .int .i64 (pre.foldl ands (val0 R q)).hi] 46 (0, 0)) ∧ okG (pre.foldl ands (val0 R q)) = true)
        (fun c _ pre _ => c = .exit 0 ∧ okG (pre.foldl ands (val0 R q)) = false)
        ?ir (fun _ _ _ _ _ h _ => h) ⟨rfl, by rw [List.foldl_nil, HV0.out]; exact HX6b.out, HK0.out⟩
        (fun x a' A => ∃ Bx, w1.heap.size + 2 ≤ Bx ∧ A.heap[Bx]? = some (.cells #[.int .i64 x.lo, .int .i64 x.hi] 46 (0, 0)) ∧ a' = { tmps := #[.agg #[.slice (some ⟨lbk, lo, none⟩) R.lots.length plc, .slice (some ⟨sb, so, none⟩) R.smp.length psc, .int .i64 R.sp, .slice pba R.labs.length pbc, .bool (off 0), .bool (off 1), .bool (off 2), .bool (off 3), .bool (off 4), .bool (off 5)], .pointer (some ⟨w.heap.size, 0, none⟩), .slice (some ⟨gl, 0, none⟩) R.lots.length cl, sv, .int .i64 q, .int .i64 Ln, .pointer (some ⟨b6, 0, none⟩), .pointer (some ⟨Bx, 0, none⟩), u8, u9, u10, u11, u12, u13, .slice (some ⟨sb, so, none⟩) R.smp.length psc, .int .i64 R.smp.length, .int .i64 q, .bool true, .int .i64 q, .pointer (some ⟨sb, so + q, none⟩), .int .i64 Ln, .pointer (some ⟨w.heap.size, 0, none⟩), .pointer (some ⟨w.heap.size, 0, none⟩), .slice (some ⟨lbk, lo, none⟩) R.lots.length plc, .int .i64 Ln, .pointer (some ⟨lbk, lo + Ln * 2, none⟩), .agg #[.int .i64 L0, .int .i64 H0], .pointer (some ⟨w.heap.size, 0, none⟩), .pointer (some ⟨w.heap.size, 2, none⟩), .int .i64 R.sp, .agg #[.int .i64 (L0 - R.sp), .int .i64 (H0 + R.sp)], .agg #[.slice (some ⟨lbk, lo, none⟩) R.lots.length plc, .slice (some ⟨sb, so, none⟩) R.smp.length psc, .int .i64 R.sp, .slice pba R.labs.length pbc, .bool (off 0), .bool (off 1), .bool (off 2), .bool (off 3), .bool (off 4), .bool (off 5)], .int .i64 q, .func (.func 89) #[] #[.pointer (some ⟨Bt, 0, none⟩), .pointer (some ⟨Bs, 0, none⟩)], rgV x, u35, u36, u37, u38, u39, u40, u41, u42, u43, u44, u45, u46, u47, u48, u49, u50, u51, u52, u53, u54, u55, u56, u57, u58, u59, undef], defers := [] })
        ?ax ?assign ?body ?done ?stop
      case t0 =>
        rintro k rfl
        exact ⟨by omega, by rintro (h | h | h) <;> omega⟩
      case hc => exact fun k hk => by rcases hk with h | h | h <;> omega
      case ir => exact fun T s A B ⟨h1, h2, h3⟩ hR => ⟨h1, (hR.2 _ h1).trans h2, h3⟩
      case ax =>
        rintro x a' A o ⟨Bx, h1, h2, h3⟩
        exact ⟨Bx, h1, (World.putObj_heap_other (by omega)).trans h2, h3⟩
      case assign =>
        rintro l2 x A hb hA
        have hact : (#[34].zip (encR x)) = #[(34, rgV x)] := by simp [encR]
        rw [hact]
        simp only [List.foldl_toArray, Array.foldl_toList, List.foldl_cons, List.foldl_nil, List.setIfInBounds_toArray, List.set_cons_succ, List.set_cons_zero]
        unfold rgV
        gi_wp2
        exact ⟨⟨A.heap.size, by omega, heap_alloc_new _ _, rfl⟩, box_below _ _⟩
      case body =>
        rintro l2 T pre x a' A hb1 hSp ⟨hT, hx, hok⟩ hOf hb hs2 ⟨Bx, hBx, hbx, rfl⟩
        have HFS : Hid ((pre ++ [x]).foldl ands (val0 R q) = ands (pre.foldl ands (val0 R q)) x) := Lib.hid (by simp)
        generalize pre.foldl ands (val0 R q) = f0 at *
        obtain ⟨f1, hf1⟩ : ∃ f1, (pre ++ [x]).foldl ands (val0 R q) = f1 := ⟨_, rfl⟩
        rw [hf1] at HFS
        have HF1 := Lib.hid hf1
        clear hf1
        have c0 := cell_of_row A Bx 0 _ _ _ hbx
        have c1 := cell_of_row A Bx 1 _ _ _ hbx
        have d0 := cell_of_row A b6 0 _ _ _ hx
        have d1 := cell_of_row A b6 1 _ _ _ hx
        simp only [List.getElem?_toArray, List.getElem?_cons_zero, List.getElem?_cons_succ] at c0 c1 d0 d1
        have lx := lt_of_block hbx
        have l6 := lt_of_block hx
        have HXX := Lib.hid hx
        have HCM := Lib.hid (common_any f0 x)
        rw [← HFS.out] at HCM
        clear hbx hx hok
        unfold rgV
        gi_wp2_with fail
        refine ⟨trivial, rfl, ?_⟩
        refine CallsIn.mono (CallsIn.inRound l2 ((callsIn_wide (n := 0)).2 (HCM.out A))) ?_
        rintro e A2 ⟨rfl, hb2⟩
        have hx2 := (hb2.block _ (lt_of_block HXX.out)).trans HXX.out
        have hbt2 : But T A A2 := But.of_below hb2
        have HX2 := Lib.hid hx2
        have HBT2 := Lib.hid hbt2
        clear hx2 hbt2 hb2 c0 c1 d0 d1 lx l6
        gi_wp2_with (first
          | (refine wpListIn_store46 rfl (.tmp 6) (.tmp 37) rfl b6 rfl _ _ f1.lo f1.hi rfl HX2.out ?_
             intro A3 hp3 hx3
             have HX3 := Lib.hid hx3
             have HBT3 := Lib.hid (hp3.but HBT2.out (.inl hT))
             have e0 := cell_of_row A3 b6 0 _ _ _ hx3
             have e1 := cell_of_row A3 b6 1 _ _ _ hx3
             simp only [List.getElem?_toArray, List.getElem?_cons_zero, List.getElem?_cons_succ] at e0 e1
             have le := lt_of_block hx3
             clear hp3 hx3)
          | fail)
        refine ⟨trivial, rfl, ?_⟩
        refine CallsIn.mono (CallsIn.inRound l2 ((callsIn_wide (n := 0)).2 (hasSome_any f1.lo f1.hi A3))) ?_
        rintro e A4 ⟨rfl, hb4⟩
        have hx4 := (hb4.block _ (lt_of_block HX3.out)).trans HX3.out
        have HX4 := Lib.hid hx4
        have HBT4 : Hid (But T A A4) := Lib.hid (HBT3.out.trans (But.of_below hb4))
        have HZ : Hid (okG ⟨f1.lo, f1.hi⟩ = okG f1) := Lib.hid rfl
        clear hx4 hb4 e0 e1 le
        rw [HZ.out]
        cases hz : okG f1 with
        | true =>
          gi_wp2_with fail
          exact ⟨HBT4.out, .inl hT, by rw [HF1.out]; exact HX4.out, by rw [HF1.out]; exact hz⟩
        | false =>
          gi_wp2_with fail
          exact ⟨HBT4.out, rfl, by rw [HF1.out]; exact hz⟩
      case done =>
        rintro T ys A rfl ⟨hT, hx, hok⟩ hOf hb m0 m1 hKd
        have HFIN : Hid ((readsR R off q).foldl ands (val0 R q) = valR R off q) := Lib.hid rfl
        rw [HFIN.out] at hx hok
        have hfar : ∀ k, k < w1.heap.size → k ≠ b6 → A.heap[k]? = w1.heap[k]? := fun k hk hne => hb.block k hk (fun h => by rcases h with h | h | h <;> omega)
        have HX2 := Lib.hid ((hfar w.heap.size (by omega) (by omega)).trans HX.out)
        have HLO2 := Lib.hid (own_at HLO.out fun g hg => hfar g (own_lt HLO.out hg).2 (by simp [Value.ownBlock] at hg; omega))
        have HSO2 := Lib.hid (own_at HSO.out fun g hg => hfar g (own_lt HSO.out hg).2 (by have := HSVB.out g hg; omega))
        have HBA : Hid (Below w.heap.size w A) := Lib.hid ⟨hb.os.trans HB.out.os, hb.tape.trans HB.out.tape, hb.output.trans HB.out.output, Nat.le_trans HB.out.size hb.size, fun k hk => (hfar k (by have := HB.out.size; omega) (by omega)).trans (HB.out.block k hk)⟩
        have hw1A : w1.heap.size < A.heap.size := lt_of_block hKd
        have HMK2 : Hid (MarksOk n0 A.heap.size ({ target := .collected w1.heap.size, args := #[] } :: ds) A) := Lib.hid ⟨w1.heap.size, rfl, by omega, hw1A, hKd, HMK.out.tag fun k d hk => hfar k (lt_of_block hk) (fun e => by rw [e, HX6b.out] at hk; cases hk)⟩
        have HX6 := Lib.hid hx
        have HVB := Lib.hid (val_bd HOK.out hlt hok)
        have HOKN : Hid (∀ s, s < q + 1 → okG (valR R off s) = true) := Lib.hid fun s hs => by
          by_cases e : s = q
          · rw [e]; exact hok
          · exact HOKS.out s (by omega)
        have HVS := Lib.hid (valsF_succ R off q)
        clear hx hok hOf hb m0 m1 hKd hfar HX HLO HSO HB HMK HOKS HX6b
        generalize valR R off q = vr at *
        have d0 := cell_of_row A b6 0 _ _ _ HX6.out
        have d1 := cell_of_row A b6 1 _ _ _ HX6.out
        simp only [List.getElem?_toArray, List.getElem?_cons_zero, List.getElem?_cons_succ] at d0 d1
        have l6 := lt_of_block HX6.out
        have hglA : gl + 1 ≤ A.heap.size := by omega
        gi_wp2_with (first
          | (refine wpListIn_app el31 rfl (.tmp 41) (.tmp 43) rfl (gl + 1) q _ _ #[.int .i64 vr.lo, .int .i64 vr.hi] rfl (by intro u hu; simp at hu; rcases hu with rfl | rfl <;> rfl) rfl rfl HSO2.out hglA (by have := HOK.out.s8; omega) ?_
             intro g2 c2 A2 hown hgr hgo
             have HSO3 := Lib.hid hown
             have HX3 := Lib.hid ((hgr.below.block w.heap.size (by omega)).trans HX2.out)
             have HX63 := Lib.hid ((hgr.block b6 l6 (fun e => by have := HSVB.out b6 e; omega)).trans HX6.out)
             have HLO3 := Lib.hid (own_at HLO2.out fun g hg => hgr.below.block g (by simp [Value.ownBlock] at hg; omega))
             have HB3 : Hid (Below w.heap.size w A2) := Lib.hid (HBA.out.trans (hgr.below.mono (by omega)))
             have HMK3 := Lib.hid ((HMK2.out.tag fun k d hk => hgr.block k (lt_of_block hk) (fun e => by
               obtain ⟨cur, hc⟩ := own_tag HSO2.out e
               rw [hc] at hk; cases hk)).up hgr.below.size)
             have HSZ3 := Lib.hid hgr.below.size
             clear hown hgr hgo d0 d1 l6)
          | fail)
        obtain ⟨g3, c3, hge, -, hgl3, hcell⟩ := own_get HLO3.out (by omega)
        cases hge
        have hcap3 := HLO3.out
        have hfr := flatR_get (lotsF R off q) Ln (by rw [HLL.out]; exact HLN.out)
        have p2 := (hcell (Ln * 2) (by omega)).trans hfr.1
        have p3 := (hcell (Ln * 2 + 1) (by omega)).trans hfr.2
        have k0 := cell_of_row A2 b6 0 _ _ _ HX63.out
        have k1 := cell_of_row A2 b6 1 _ _ _ HX63.out
        have k2 := cell_of_row A2 w.heap.size 2 _ _ _ HX3.out
        simp only [List.getElem?_toArray, List.getElem?_cons_zero, List.getElem?_cons_succ] at k0 k1 k2
        have r0 := cell_regrown k0
        have r1 := cell_regrown k1
        have r2 := cell_regrown k2
        have r3 := cell_regrown p2
        have r4 := cell_regrown p3
        have HWV := Lib.hid fun w => wider_any vr.lo vr.hi R.sp w (IntWalk.i64_in _ (by have := HVB.out; have := hSP.out; omega)) (IntWalk.i64_in _ (by have := HVB.out; have := hSP.out; omega))
        have HCV := Lib.hid (common_any (rg (lotsF R off q) Ln) (wid vr R.sp))
        obtain ⟨nw, hnw2⟩ : ∃ nw, nw = ands (rg (lotsF R off q) Ln) (wid vr R.sp) := ⟨_, rfl⟩
        rw [← hnw2] at HCV HSTEP
        have hwid : wid vr R.sp = ⟨vr.lo - R.sp, vr.hi + R.sp⟩ := rfl
        rw [hwid] at HCV
        generalize (rg (lotsF R off q) Ln).lo = xl at *
        generalize (rg (lotsF R off q) Ln).hi = xh at *
        clear k0 k1 k2 p2 p3 hfr hcell hcap3 hnw2 hwid
        gi_wp2_with fail
        refine wpIn_wide.2 (wp_region_below_tail 13 (by kernel_rfl) (by kernel_rfl) ?_)
        repeat (quiet_step (first | with_reducible exact Calls.regrown_of (HWV.out _) | with_reducible exact Calls.regrown_of (HCV.out _)))
        refine wpQuiet_nil ?_
        intro A4 hb4
        simp only [List.drop_succ_cons, List.drop_zero]
        have hlo4 := row_kept HLO3.out hb4
        refine wpList_store_mid rfl 46 (.tmp 57) (.tmp 56) rfl gl (Ln * 2) #[.int .i64 nw.lo, .int .i64 nw.hi] rfl rfl (there_ownR hlo4 HLN.out) (by kernel_rfl) (by simp [Value.oneCell']) ?_
        have hset := own_setR nw HLL.out.symm hlo4 HLN.out
        have hp := put_cells gl (Ln * 2) [.int .i64 nw.lo, .int .i64 nw.hi] A4
        have hA4 := hb4.size
        have HX5 := Lib.hid ((hp.other w.heap.size (by omega)).trans ((hb4.block _ (lt_of_block HX3.out)).trans HX3.out))
        have HSO5 := Lib.hid (own_at (row_kept HSO3.out hb4) fun g hg => hp.other g (by have := (own_lt HSO3.out hg).1; omega))
        have HB5 := Lib.hid (hp.below (below_to HB3.out hb4) (by omega))
        have HMK5 := Lib.hid (((HMK3.out.tag fun k d hk => hb4.block k (lt_of_block hk)).tag fun k d hk => hp.other k (fun e => by
          obtain ⟨cur, hc⟩ := own_tag hlo4 (show (Value.slice (some ⟨gl, 0, none⟩) R.lots.length cl).ownBlock = some gl from rfl)
          rw [e, hc] at hk; cases hk)).up (show A2.heap.size ≤ (A4.setCells gl (Ln * 2) [.int .i64 nw.lo, .int .i64 nw.hi]).heap.size by rw [size_cells]; exact hA4))
        have HLO5 : Hid ((A4.setCells gl (Ln * 2) [.int .i64 nw.lo, .int .i64 nw.hi]).ownsRow w.heap.size 46 2 (.slice (some ⟨gl, 0, none⟩) R.lots.length cl) R.lots.length (flatR (lotsF R off (q + 1)))) := Lib.hid (by rw [HSTEP.out]; exact hset)
        have HSO6 : Hid ((A4.setCells gl (Ln * 2) [.int .i64 nw.lo, .int .i64 nw.hi]).ownsRow (gl + 1) 46 2 (.slice (some ⟨g2, 0, none⟩) (q + 1) c2) (q + 1) (flatR (valsF R off (q + 1)))) := Lib.hid (by rw [HVS.out, flatR_snoc]; exact HSO5.out)
        have HNN6 : Hid (n0 ≤ (A4.setCells gl (Ln * 2) [.int .i64 nw.lo, .int .i64 nw.hi]).heap.size) := Lib.hid (by rw [size_cells]; have := HSZ3.out; omega)
        clear hset hp hlo4 hb4 r0 r1 r2 r3 r4 HSO5
        generalize World.setCells A4 _ _ _ = A5 at *
        simp only [wpList]
        gi_wp2_with fail
        exact ⟨⟨_, _, _, _, _, _, _, _, _, _, _, _, _, _, _, _, _, _, _, _, _, _, _, _, _, _, _, _, _, _, _, _, _, _, _, _, _, _, _, _, _, _, _, _, _, _, _, _, _, _, _, _, _, .slice (some ⟨g2, 0, none⟩) (q + 1) c2, q + 1, _, by omega, HOKN, HX5, HLO5, HSO6, HB5, HMK5, HNN6, rfl⟩, by simp [intOf]; omega⟩
      case stop =>
        rintro c T pre A hSp ⟨rfl, hno⟩ hOf hb m0 m1 hKd
        have hnv := fold_pre hSp hno
        have HNO : Hid (okG (valR R off q) = false) := Lib.hid hnv
        have hfar : ∀ k, k < w1.heap.size → k ≠ b6 → A.heap[k]? = w1.heap[k]? := fun k hk hne => hb.block k hk (fun h => by rcases h with h | h | h <;> omega)
        have HBA : Hid (Below w.heap.size w A) := Lib.hid ⟨hb.os.trans HB.out.os, hb.tape.trans HB.out.tape, hb.output.trans HB.out.output, Nat.le_trans HB.out.size hb.size, fun k hk => (hfar k (by have := HB.out.size; omega) (by omega)).trans (HB.out.block k hk)⟩
        have hw1A : w1.heap.size < A.heap.size := lt_of_block hKd
        have HMK2 : Hid (MarksOk n0 A.heap.size ({ target := .collected w1.heap.size, args := #[] } :: ds) A) := Lib.hid ⟨w1.heap.size, rfl, by omega, hw1A, hKd, HMK.out.tag fun k d hk => hfar k (lt_of_block hk) (fun e => by rw [e, HX6b.out] at hk; cases hk)⟩
        obtain ⟨sa, sc, rfl⟩ := own_shape HSO.out
        clear hno hnv hOf hb m0 m1 hKd hfar HX HLO HB HMK HX6b
        refine wpIn_exit ?_
        gi_wp2_with fail
        unfold Exit.noGoto
        dsimp only
        refine marks_end HMK2.out fun w' e1 e2 e4 e5 e6 e7 => ?_
        refine ⟨.tuple #[.slice (some ⟨gl, 0, none⟩) R.lots.length cl, .slice sa q sc], by simp [results, Try.results62, go_sem], ⟨gl, cl, sa, sc, q, rfl, .inr ⟨hlt, q, hlt, HNO.out⟩⟩, ?_⟩
        exact ⟨e1.trans HBA.out.os, e2.trans HBA.out.tape, e4.trans HBA.out.output, Nat.le_trans HBA.out.size e5, fun k hk => (e6 k (by have := HWN.out; omega)).trans (HBA.out.block k hk)⟩
    · obtain rfl : q = R.smp.length := by omega
      obtain ⟨sa, sc, rfl⟩ := own_shape HSO.out
      clear a0 a1 a2 a3
      gi_wp2_with fail
      unfold Exit.noGoto
      dsimp only
      refine marks_end HMK.out fun w' e1 e2 e4 e5 e6 e7 => ?_
      have hcell : ∀ {base e sz m : Nat} {v : Value} {xs : List Value}, wr.ownsRow base e sz v m xs → w'.ownsRow base e sz v m xs := fun h => own_at h fun g hg => e7 g fun d hd => by
        obtain ⟨cur, hc⟩ := own_tag h hg
        rw [hc] at hd; cases hd
      refine ⟨.tuple #[.slice (some ⟨gl, 0, none⟩) R.lots.length cl, .slice sa R.smp.length sc], by simp [results, Try.results62, go_sem], ⟨gl, cl, sa, sc, _, rfl, .inl ⟨rfl, HOKS.out, by omega, hcell HLO.out, hcell HSO.out⟩⟩, ?_⟩
      exact ⟨e1.trans HB.out.os, e2.trans HB.out.tape, e4.trans HB.out.output, Nat.le_trans HB.out.size e5, fun k hk => (e6 k (by have := HWN.out; omega)).trans (HB.out.block k hk)⟩
end Go.Proofs.Ytpdkgnfblnblbaa
