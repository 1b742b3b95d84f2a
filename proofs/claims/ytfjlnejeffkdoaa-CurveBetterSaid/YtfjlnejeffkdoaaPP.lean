/- The law CurveRules, walked where the curve and the rule are valid. -/
import Derived.Test.YtfjlnejeffkdoaaOO
namespace Go.Proofs.Ytfjlnejeffkdoaa
open Go.RowKit Go.Shelf
attribute [local irreducible] arrV wpQuiet

set_option maxRecDepth 100000 in
set_option maxHeartbeats 4000000 in
theorem rules_yes (b off cap m capw : Nat) (aw : Option Addr) (ps : List Pt) (r : Rl) (wd : Nat → Int) (da oa : Int) (w : World) (hn : ps.length ≤ 20) (h0 : 0 < ps.length) (hg : goodsB ps 0 = true) (hr : ruleB r = true) (hp : PtsIn w b off ps)
    (hda : 0 ≤ da ∧ da < 256) (hoa : 0 ≤ oa ∧ oa < 256)
    (hm : m ≤ maxLen) (hw : ∀ j, j < m → ∃ bw ow, aw = some ⟨bw, ow, none⟩ ∧ w.cell? ⟨bw, ow + j, none⟩ = some (.int .u16 (wd j)) ∧ 0 ≤ wd j ∧ wd j < 65536)
    (HR : ∀ s : Rl, ruleB s = true → ∀ W, Below w.heap.size w W → Calls Try.prog 41 #[.agg #[.slice (some ⟨b, off, none⟩) ps.length cap], .agg #[.int .i64 s.d, .int .i64 s.k, .int .i64 s.o]] W fun e w' => e = .returned (.bool true) ∧ Below W.heap.size W w') :
    Calls Try.prog 11 #[.agg #[.slice (some ⟨b, off, none⟩) ps.length cap], .agg #[.int .i64 r.d, .int .i64 r.k, .int .i64 r.o], .slice aw m capw, .int .u8 da, .int .u8 oa] w fun e w' => e = .returned (.bool true) ∧ Below w.heap.size w w' := by
  have hltb := block_lt_of_cell (hp 0 h0).1
  have hlo : ∀ i, i < ps.length → 0 ≤ (pt ps i).lo ∧ (pt ps i).lo ≤ (pt ps i).hi ∧ (pt ps i).hi ≤ 100000 := fun i hi => (goodB_spec hg hi).2.2
  have hfit := pickL_fits (m := m) (wd := wd) (fun i hi => (hlo i hi).2.1) (fun j hj => by obtain ⟨_, _, _, _, h, _⟩ := hw j hj; exact h)
  have hlen := pickL_len ps m wd ps.length
  have HPK := Lib.hid fun W (hb : Below w.heap.size w W) => Picked_any b off cap m capw aw ps wd W hn h0 (hp.below hb hltb) hlo hm (fun j hj => by
    obtain ⟨bw, ow, h1, h2, h3⟩ := hw j hj
    exact ⟨bw, ow, h1, (hb.cell (p := ⟨bw, ow + j, none⟩) (block_lt_of_cell h2)).trans h2, h3⟩)
  generalize ht : pickL ps m wd ps.length = t at *
  clear ht
  have hrb : (1 ≤ r.d ∧ r.d ≤ 100000) ∧ (1 ≤ r.k ∧ r.k ≤ 1000) ∧ 0 ≤ r.o ∧ r.o ≤ 1000 := by simpa [ruleB, hasB] using hr
  obtain ⟨sd, hsd⟩ : ∃ sd, sd = min 100000 (r.d + da) := ⟨_, rfl⟩
  obtain ⟨so, hso⟩ : ∃ so, so = min 1000 (r.o + oa) := ⟨_, rfl⟩
  have hsb : (r.d ≤ sd ∧ sd ≤ 100000) ∧ r.o ≤ so ∧ so ≤ 1000 := by omega
  have hrs : ruleB ⟨sd, r.k, so⟩ = true := by
    simp only [ruleB, hasB, Bool.and_eq_true, decide_eq_true_eq]
    omega
  have G : Good ps r t := ⟨hn, h0, hg, hr, hlen, hfit⟩
  have G2 : Good ps ⟨sd, r.k, so⟩ t := ⟨hn, h0, hg, hrs, hlen, hfit⟩
  have HL := lat_read (ps := ps) (r := r) (s := ⟨sd, r.k, so⟩) (pad t) hsb.1.1 rfl (by omega) hsb.2.1
  have HCV := Lib.hid fun W (hb : Below w.heap.size w W) => Curve_any b off cap ps W hn h0 (hp.below hb hltb)
  have HR1 := Lib.hid (HR r hr)
  have HR2 := Lib.hid (HR ⟨sd, r.k, so⟩ hrs)
  have HRD1 := Lib.hid fun (B2 c2 B3 c3 : Nat) W h1 h2 => Read_ok B2 0 c2 B3 0 c3 ps r t W G h1 h2
  have HRD2 := Lib.hid fun (B2 c2 B3 c3 : Nat) W h1 h2 => Read_ok B2 0 c2 B3 0 c3 ps ⟨sd, r.k, so⟩ t W G2 h1 h2
  have HT := Lib.hid hlen
  generalize readR ps r (pad t) = x at *
  generalize readR ps ⟨sd, r.k, so⟩ (pad t) = y at *
  have HA := Lib.hid awake_any
  obtain ⟨x1, x2, x3⟩ := boxes3 w (.cells #[.slice (some ⟨b, off, none⟩) ps.length cap] 24) (.cells #[.int .i64 r.d, .int .i64 r.k, .int .i64 r.o] 26) (.cells #[.int .i64 r.d, .int .i64 r.k, .int .i64 r.o] 26)
  have hS0 : Three w (.slice (some ⟨b, off, none⟩) ps.length cap) r.d r.k r.o _ := ⟨x1, x2, ⟨_, _, x3⟩, below3 w _ _ _⟩
  have HS0 := Lib.hid hS0
  have HSD := Lib.hid hsd
  have HSO := Lib.hid hso
  have hwa : IntKind.i64.wrap da = da := IntWalk.i64_in _ (by omega)
  have hwb : IntKind.i64.wrap oa = oa := IntWalk.i64_in _ (by omega)
  have hwd : IntKind.i64.wrap (r.d + da) = r.d + da := IntWalk.i64_in _ (by omega)
  have hwo : IntKind.i64.wrap (r.o + oa) = r.o + oa := IntWalk.i64_in _ (by omega)
  have HH0 := Lib.hid h0
  clear HR hp hw hm hfit G G2 hlen hg hr hrs hrb hsb hsd hso x1 x2 x3 hS0 hlo hda hoa h0
  go_enter Try.func11, Try.ntmps11
  go_wp2_with fail
  generalize World.alloc (World.alloc (World.alloc w _) _) _ = W1 at *
  refine wp_region_noPanic ?_
  refine wp_region_chain (Three w (.slice (some ⟨b, off, none⟩) ps.length cap) r.d r.k r.o) (fun w1 w2 h hb => h.grown hb) (HS0.out.grown (below_drawn _)) (by kernel_rfl) (fun _ _ _ _ _ h => h)
    [(false, 0), (false, 1), (false, 2), (false, 3), (false, 4), (false, 5), (false, 6), (false, 7), (false, 8), (false, 9), (false, 10), (false, 11), (false, 12)] [13, 14, 15] (by kernel_rfl) ?_
  iterate 13
    (refine Walk.takes rfl rfl ?_; apply Exists.intro; refine ⟨fun w' hS => ?_, ?_⟩; (obtain ⟨-, e1, -⟩ := hS; have u0 := cell_of_row w' (w.heap.size + 1) 0 _ _ _ e1; have u2 := cell_of_row w' (w.heap.size + 1) 2 _ _ _ e1; clear e1; simp at u0 u2; go_simp; with_reducible rfl); simp only [List.getElem_toArray, List.getElem_cons_succ, List.getElem_cons_zero, Act.put, List.setIfInBounds_toArray, List.set_cons_zero, List.set_cons_succ])
  rw [← HSD.out, ← HSO.out]
  clear hwa hwb hwd hwo
  refine Walk.fin ?_
  rintro w4 _ hT
  try simp only [List.getElem_toArray, List.getElem_cons_succ, List.getElem_cons_zero, Act.put, List.setIfInBounds_toArray, List.set_cons_zero, List.set_cons_succ]
  obtain ⟨x', y', e3⟩ := hT.2.2.1
  have hc0 := cell_of_row w4 (w.heap.size + 1 + 1) 0 _ _ _ e3
  have hf0 := frozen_of_row w4 (w.heap.size + 1 + 1) 0 _ _ e3
  simp at hc0
  have q5 := heap_setCell_same w4 (w.heap.size + 1 + 1) 0 _ 26 (.int .i64 sd) e3
  simp at q5
  have Q5 := Lib.hid q5
  clear e3 q5
  refine Tail.skip rfl rfl (by go_simp; with_reducible rfl) (hT.set _).1 ?_
  replace hT := (hT.set (.int .i64 sd)).1
  clear hc0 hf0
  generalize World.setCell w4 _ _ = w5 at *
  simp only [List.getElem_toArray, List.getElem_cons_succ, List.getElem_cons_zero, Act.put, List.setIfInBounds_toArray, List.set_cons_zero, List.set_cons_succ]
  (refine Tail.value rfl rfl (by go_simp; with_reducible rfl) ?_; simp only [List.getElem_toArray, List.getElem_cons_succ, List.getElem_cons_zero, Act.put, List.setIfInBounds_toArray, List.set_cons_zero, List.set_cons_succ])
  have e3 := Q5.out
  have hc2 := cell_of_row w5 (w.heap.size + 1 + 1) 2 _ _ _ e3
  have hf2 := frozen_of_row w5 (w.heap.size + 1 + 1) 2 _ _ e3
  simp at hc2
  have q6 := heap_setCell_same w5 (w.heap.size + 1 + 1) 2 _ 26 (.int .i64 so) e3
  simp at q6
  have Q6 := Lib.hid q6
  clear e3 Q5 q6
  refine Tail.skip rfl rfl (by go_simp; with_reducible rfl) (hT.set _).2 (Tail.done (NoPanic.normal ?_))
  replace hT := (hT.set (.int .i64 so)).2
  clear hc2 hf2
  generalize World.setCell w5 _ _ = w6 at *
  simp only [List.getElem_toArray, List.getElem_cons_succ, List.getElem_cons_zero, Act.put, List.setIfInBounds_toArray, List.set_cons_zero, List.set_cons_succ]
  obtain ⟨hx1, hx2, -, hbw⟩ := hT
  have hx3 := Q6.out
  clear Q6 HS0
  have HC : Hid (∀ w', Below w6.heap.size w6 w' → w'.cell? ⟨w.heap.size, 0, none⟩ = some (.slice (some ⟨b, off, none⟩) ps.length cap) ∧ (w'.cell? ⟨w.heap.size + 1, 0, none⟩ = some (.int .i64 r.d) ∧ w'.cell? ⟨w.heap.size + 1, 1, none⟩ = some (.int .i64 r.k) ∧ w'.cell? ⟨w.heap.size + 1, 2, none⟩ = some (.int .i64 r.o)) ∧ w'.cell? ⟨w.heap.size + 1 + 1, 0, none⟩ = some (.int .i64 sd) ∧ w'.cell? ⟨w.heap.size + 1 + 1, 1, none⟩ = some (.int .i64 r.k) ∧ w'.cell? ⟨w.heap.size + 1 + 1, 2, none⟩ = some (.int .i64 so)) := Lib.hid fun w' h => by
    have y1 := (h.block _ (lt_of_block hx1)).trans hx1
    have y2 := (h.block _ (lt_of_block hx2)).trans hx2
    have y3 := (h.block _ (lt_of_block hx3)).trans hx3
    exact ⟨cell_of_row w' w.heap.size 0 _ _ _ y1, ⟨cell_of_row w' (w.heap.size + 1) 0 _ _ _ y2, cell_of_row w' (w.heap.size + 1) 1 _ _ _ y2, cell_of_row w' (w.heap.size + 1) 2 _ _ _ y2⟩, cell_of_row w' (w.heap.size + 1 + 1) 0 _ _ _ y3, cell_of_row w' (w.heap.size + 1 + 1) 1 _ _ _ y3, cell_of_row w' (w.heap.size + 1 + 1) 2 _ _ _ y3⟩
  have HBW := Lib.hid hbw
  clear hx1 hx2 hx3 hbw
  obtain ⟨c0, ⟨d0, d1, d2⟩, -⟩ := HC.out w6 (Below.refl _ _)
  go_wp2_with fail
  refine (HR1.out _ HBW.out).mono ?_
  rintro e w7 ⟨rfl, hb7⟩
  have HB7 := Lib.hid hb7
  clear hb7 c0 d0 d1 d2
  obtain ⟨c0, -, d0, d1, d2⟩ := HC.out w7 HB7.out
  go_wp2_with fail
  refine (HR2.out _ (below_to HBW.out HB7.out)).mono ?_
  rintro e w8 ⟨rfl, hb8⟩
  have HB8 := Lib.hid (grow_to HB7.out hb8)
  clear hb8 HB7 c0 d0 d1 d2
  clear w7
  go_wp2
  refine wp_region_noPanic ?_
  refine wp_region_float (by kernel_rfl) (fun _ _ _ _ _ h => h) 11 _ rfl 12 rfl rfl (.cells zero37 37) (fun a w => by kernel_rfl)
    [(false, 0), (false, 2), (false, 4), (false, 5), (true, 1), (true, 3), (true, 6), (true, 7), (false, 8), (false, 9), (false, 10)] [12, 13] (by kernel_rfl) ?_
  iterate 4
    (refine Walk.takes rfl rfl ?_; apply Exists.intro; refine ⟨fun w' hS => ?_, ?_⟩; (obtain ⟨d0, ⟨d1, d2, d3⟩, -⟩ := HC.out w' (grow_to HB8.out hS); go_simp; with_reducible rfl); simp only [List.getElem_toArray, List.getElem_cons_succ, List.getElem_cons_zero, Act.put, List.setIfInBounds_toArray, List.set_cons_zero, List.set_cons_succ])
  refine Walk.calls rfl rfl ?_; apply Exists.intro; apply Exists.intro; refine ⟨fun w' hS => ?_, fun w' hba => ?_⟩; (clear hS; go_simp; exact ⟨rfl, rfl⟩)
  refine (HCV.out w' (below_to HBW.out (grow_to (grow_to HB8.out (below_drawn _)) hba))).mono ?_
  rintro e u1 ⟨B2, c2, rfl, hp2, hB2, hbb⟩
  refine ⟨_, rfl, hbb, ?_⟩
  simp only [List.getElem_toArray, List.getElem_cons_succ, List.getElem_cons_zero, Act.put, List.setIfInBounds_toArray, List.set_cons_zero, List.set_cons_succ]
  have hl2 := block_lt_of_cell (hp2 0 HH0.out).1
  have hu1 := grow_to (grow_to (grow_to HB8.out (below_drawn _)) hba) hbb
  clear hba hbb hB2
  refine Walk.calls rfl rfl ?_; apply Exists.intro; apply Exists.intro; refine ⟨fun w' hS => ?_, fun w' hba => ?_⟩; (clear hS; go_simp; exact ⟨rfl, rfl⟩)
  refine (Rule_any r.d r.k r.o w').mono ?_
  rintro e u2 ⟨rfl, hbb⟩
  refine ⟨_, rfl, hbb, ?_⟩
  simp only [List.getElem_toArray, List.getElem_cons_succ, List.getElem_cons_zero, Act.put, List.setIfInBounds_toArray, List.set_cons_zero, List.set_cons_succ]
  replace hp2 := (hp2.below hba hl2).below hbb (Nat.lt_of_lt_of_le hl2 hba.size)
  replace hl2 := block_lt_of_cell (hp2 0 HH0.out).1
  have hu2 := grow_to (grow_to hu1 hba) hbb
  clear hba hbb hu1
  refine Walk.calls rfl rfl ?_; apply Exists.intro; apply Exists.intro; refine ⟨fun w' hS => ?_, fun w' hba => ?_⟩; (clear hS; go_simp; exact ⟨rfl, rfl⟩)
  refine (HPK.out w' (below_to HBW.out (grow_to hu2 hba))).mono ?_
  rintro e u3 ⟨B1, c1, rfl, hi1, hB1, hbb⟩
  refine ⟨_, rfl, hbb, ?_⟩
  simp only [List.getElem_toArray, List.getElem_cons_succ, List.getElem_cons_zero, Act.put, List.setIfInBounds_toArray, List.set_cons_zero, List.set_cons_succ]
  replace hp2 := (hp2.below hba hl2).below hbb (Nat.lt_of_lt_of_le hl2 hba.size)
  replace hl2 := block_lt_of_cell (hp2 0 HH0.out).1
  have hl3 := block_lt_of_cell (hi1 0 (by rw [HT.out]; exact HH0.out))
  clear hba hbb hu2 hB1
  refine Walk.calls rfl rfl ?_; apply Exists.intro; apply Exists.intro; refine ⟨fun w' hS => ?_, fun w' hba => ?_⟩; (clear hS; go_simp; exact ⟨rfl, rfl⟩)
  refine (HRD1.out B2 c2 B1 c1 w' (hp2.below hba hl2) (hi1.below hba hl3)).mono ?_
  rintro e u4 ⟨rfl, hbb⟩
  refine ⟨_, rfl, hbb, ?_⟩
  simp only [List.getElem_toArray, List.getElem_cons_succ, List.getElem_cons_zero, Act.put, List.setIfInBounds_toArray, List.set_cons_zero, List.set_cons_succ]
  clear hba hbb hp2 hi1 hl2 hl3 u1 u2 u3
  iterate 3
    (refine Walk.takes rfl rfl ?_; apply Exists.intro; refine ⟨fun w' hS => ?_, ?_⟩; (clear hS; go_simp; with_reducible rfl); simp only [List.getElem_toArray, List.getElem_cons_succ, List.getElem_cons_zero, Act.put, List.setIfInBounds_toArray, List.set_cons_zero, List.set_cons_succ])
  refine Walk.fin ?_
  intro v7 hb7 b8 hbb8 hz8 hw7
  simp only [List.getElem_toArray, List.getElem_cons_succ, List.getElem_cons_zero, Act.put, List.setIfInBounds_toArray, List.set_cons_zero, List.set_cons_succ]
  have hs37 : (Try.prog.info? 37).map (·.size) = some (rsV x).size := s37
  have n1 := set_whole b8 37 v7 zero37 (rsV x) rfl hz8
  have n3 := below_cells (b := b8) hbb8 (rsV x).toList 0 v7 hw7
  refine Tail.skip rfl rfl (exec_store_row 37 (.tmp 12) (.tmp 51) rfl b8 0 (rsV x) rfl rfl (there_block hz8 (Nat.le_refl _)) hs37 (by simp [rsV, iV, Value.oneCell'])) n3 ?_
  simp only [List.getElem_toArray, List.getElem_cons_succ, List.getElem_cons_zero, Act.put, List.setIfInBounds_toArray, List.set_cons_zero, List.set_cons_succ]
  generalize v7.setCells b8 0 (rsV x).toList = w9 at *
  (refine Tail.value rfl rfl (by go_simp; with_reducible rfl) ?_; simp only [List.getElem_toArray, List.getElem_cons_succ, List.getElem_cons_zero, Act.put, List.setIfInBounds_toArray, List.set_cons_zero, List.set_cons_succ])
  refine Tail.done (NoPanic.normal ?_)
  clear hz8 hw7 hb7 hs37
  clear v7
  have N1 := Lib.hid n1
  have HB9 := Lib.hid (grow_to HB8.out n3)
  clear n1 n3 HB8 hbb8
  go_wp2
  refine wp_region_noPanic ?_
  refine wp_region_float (by kernel_rfl) (fun _ _ _ _ _ h => h) 11 _ rfl 14 rfl rfl (.cells zero37 37) (fun a w => by kernel_rfl)
    [(false, 0), (false, 2), (false, 4), (false, 5), (true, 1), (true, 3), (true, 6), (true, 7), (false, 8), (false, 9), (false, 10)] [12, 13] (by kernel_rfl) ?_
  iterate 4
    (refine Walk.takes rfl rfl ?_; apply Exists.intro; refine ⟨fun w' hS => ?_, ?_⟩; (obtain ⟨d0, -, d1, d2, d3⟩ := HC.out w' (grow_to HB9.out hS); go_simp; with_reducible rfl); simp only [List.getElem_toArray, List.getElem_cons_succ, List.getElem_cons_zero, Act.put, List.setIfInBounds_toArray, List.set_cons_zero, List.set_cons_succ])
  refine Walk.calls rfl rfl ?_; apply Exists.intro; apply Exists.intro; refine ⟨fun w' hS => ?_, fun w' hba => ?_⟩; (clear hS; go_simp; exact ⟨rfl, rfl⟩)
  refine (HCV.out w' (below_to HBW.out (grow_to (grow_to HB9.out (below_drawn _)) hba))).mono ?_
  rintro e u1 ⟨B2, c2, rfl, hp2, hB2, hbb⟩
  refine ⟨_, rfl, hbb, ?_⟩
  simp only [List.getElem_toArray, List.getElem_cons_succ, List.getElem_cons_zero, Act.put, List.setIfInBounds_toArray, List.set_cons_zero, List.set_cons_succ]
  have hl2 := block_lt_of_cell (hp2 0 HH0.out).1
  have hu1 := grow_to (grow_to (grow_to HB9.out (below_drawn _)) hba) hbb
  clear hba hbb hB2
  refine Walk.calls rfl rfl ?_; apply Exists.intro; apply Exists.intro; refine ⟨fun w' hS => ?_, fun w' hba => ?_⟩; (clear hS; go_simp; exact ⟨rfl, rfl⟩)
  refine (Rule_any sd r.k so w').mono ?_
  rintro e u2 ⟨rfl, hbb⟩
  refine ⟨_, rfl, hbb, ?_⟩
  simp only [List.getElem_toArray, List.getElem_cons_succ, List.getElem_cons_zero, Act.put, List.setIfInBounds_toArray, List.set_cons_zero, List.set_cons_succ]
  replace hp2 := (hp2.below hba hl2).below hbb (Nat.lt_of_lt_of_le hl2 hba.size)
  replace hl2 := block_lt_of_cell (hp2 0 HH0.out).1
  have hu2 := grow_to (grow_to hu1 hba) hbb
  clear hba hbb hu1
  refine Walk.calls rfl rfl ?_; apply Exists.intro; apply Exists.intro; refine ⟨fun w' hS => ?_, fun w' hba => ?_⟩; (clear hS; go_simp; exact ⟨rfl, rfl⟩)
  refine (HPK.out w' (below_to HBW.out (grow_to hu2 hba))).mono ?_
  rintro e u3 ⟨B1, c1, rfl, hi1, hB1, hbb⟩
  refine ⟨_, rfl, hbb, ?_⟩
  simp only [List.getElem_toArray, List.getElem_cons_succ, List.getElem_cons_zero, Act.put, List.setIfInBounds_toArray, List.set_cons_zero, List.set_cons_succ]
  replace hp2 := (hp2.below hba hl2).below hbb (Nat.lt_of_lt_of_le hl2 hba.size)
  replace hl2 := block_lt_of_cell (hp2 0 HH0.out).1
  have hl3 := block_lt_of_cell (hi1 0 (by rw [HT.out]; exact HH0.out))
  clear hba hbb hu2 hB1
  refine Walk.calls rfl rfl ?_; apply Exists.intro; apply Exists.intro; refine ⟨fun w' hS => ?_, fun w' hba => ?_⟩; (clear hS; go_simp; exact ⟨rfl, rfl⟩)
  refine (HRD2.out B2 c2 B1 c1 w' (hp2.below hba hl2) (hi1.below hba hl3)).mono ?_
  rintro e u4 ⟨rfl, hbb⟩
  refine ⟨_, rfl, hbb, ?_⟩
  simp only [List.getElem_toArray, List.getElem_cons_succ, List.getElem_cons_zero, Act.put, List.setIfInBounds_toArray, List.set_cons_zero, List.set_cons_succ]
  clear hba hbb hp2 hi1 hl2 hl3 u1 u2 u3
  iterate 3
    (refine Walk.takes rfl rfl ?_; apply Exists.intro; refine ⟨fun w' hS => ?_, ?_⟩; (clear hS; go_simp; with_reducible rfl); simp only [List.getElem_toArray, List.getElem_cons_succ, List.getElem_cons_zero, Act.put, List.setIfInBounds_toArray, List.set_cons_zero, List.set_cons_succ])
  refine Walk.fin ?_
  intro v7 hb7 b9 hbb9 hz8 hw7
  simp only [List.getElem_toArray, List.getElem_cons_succ, List.getElem_cons_zero, Act.put, List.setIfInBounds_toArray, List.set_cons_zero, List.set_cons_succ]
  have hs37 : (Try.prog.info? 37).map (·.size) = some (rsV y).size := s37
  have n1 := set_whole b9 37 v7 zero37 (rsV y) rfl hz8
  have n3 := below_cells (b := b9) hbb9 (rsV y).toList 0 v7 hw7
  refine Tail.skip rfl rfl (exec_store_row 37 (.tmp 14) (.tmp 62) rfl b9 0 (rsV y) rfl rfl (there_block hz8 (Nat.le_refl _)) hs37 (by simp [rsV, iV, Value.oneCell'])) n3 ?_
  simp only [List.getElem_toArray, List.getElem_cons_succ, List.getElem_cons_zero, Act.put, List.setIfInBounds_toArray, List.set_cons_zero, List.set_cons_succ]
  generalize v7.setCells b9 0 (rsV y).toList = w10 at *
  (refine Tail.value rfl rfl (by go_simp; with_reducible rfl) ?_; simp only [List.getElem_toArray, List.getElem_cons_succ, List.getElem_cons_zero, Act.put, List.setIfInBounds_toArray, List.set_cons_zero, List.set_cons_succ])
  refine Tail.done (NoPanic.normal ?_)
  clear hz8 hw7 hb7 hs37
  clear v7
  replace n1 := n1
  have N2 := Lib.hid n1
  replace N1 := Lib.hid ((n3.block _ (lt_of_block N1.out)).trans N1.out)
  have HB10 := Lib.hid (below_to HBW.out (grow_to HB9.out n3))
  clear n1 n3 HB9
  obtain ⟨st, pk, ya, yv, ma, pl, wk⟩ := x
  obtain ⟨st2, pk2, ya2, yv2, ma2, pl2, wk2⟩ := y
  obtain ⟨e1, e2, e3, hya, hma⟩ := HL
  simp only at e1 e2 e3 hya hma
  subst e1 e2 e3
  have HY := Lib.hid fun w => later_yes ya2 ya w hya
  have HM := Lib.hid fun w => later_yes ma2 ma w hma
  clear hya hma HRD1 HRD2 HCV HPK HR1 HR2
  have HF : Hid (∀ w', Below w10.heap.size w10 w' → (w'.cell? ⟨b8, 0, none⟩ = some (.int .i64 st2) ∧ w'.cell? ⟨b8, 1, none⟩ = some (.int .i64 pk2) ∧ w'.cell? ⟨b8, 2, none⟩ = some (.int .i64 ya) ∧ w'.cell? ⟨b8, 4, none⟩ = some (.int .i64 ma) ∧ w'.cell? ⟨b8, 6, none⟩ = some (.int .i64 wk2)) ∧
      (w'.cell? ⟨b9, 0, none⟩ = some (.int .i64 st2) ∧ w'.cell? ⟨b9, 1, none⟩ = some (.int .i64 pk2) ∧ w'.cell? ⟨b9, 2, none⟩ = some (.int .i64 ya2) ∧ w'.cell? ⟨b9, 4, none⟩ = some (.int .i64 ma2) ∧ w'.cell? ⟨b9, 6, none⟩ = some (.int .i64 wk2))) := Lib.hid fun w' h => by
    have y1 := (h.block _ (lt_of_block N1.out)).trans N1.out
    have y2 := (h.block _ (lt_of_block N2.out)).trans N2.out
    exact ⟨⟨cell_of_row w' b8 0 _ _ _ y1, cell_of_row w' b8 1 _ _ _ y1, cell_of_row w' b8 2 _ _ _ y1, cell_of_row w' b8 4 _ _ _ y1, cell_of_row w' b8 6 _ _ _ y1⟩, cell_of_row w' b9 0 _ _ _ y2, cell_of_row w' b9 1 _ _ _ y2, cell_of_row w' b9 2 _ _ _ y2, cell_of_row w' b9 4 _ _ _ y2, cell_of_row w' b9 6 _ _ _ y2⟩
  clear N1 N2 HC HBW
  obtain ⟨⟨a0, a1, a2, a4, a6⟩, f0, f1, f2, f4, f6⟩ := HF.out w10 (Below.refl _ _)
  go_wp2_with fail
  refine (HY.out _).mono ?_
  rintro e w11 ⟨rfl, hb11⟩
  have HB11 := Lib.hid hb11
  clear hb11 a0 a1 a2 a4 a6 f0 f1 f2 f4 f6
  obtain ⟨⟨a0, a1, a2, a4, a6⟩, f0, f1, f2, f4, f6⟩ := HF.out w11 HB11.out
  go_wp2_with fail
  refine (HM.out _).mono ?_
  rintro e w12 ⟨rfl, hb12⟩
  have HB12 := Lib.hid (grow_to HB11.out hb12)
  clear hb12 a0 a1 a2 a4 a6 f0 f1 f2 f4 f6
  obtain ⟨⟨a0, a1, a2, a4, a6⟩, f0, f1, f2, f4, f6⟩ := HF.out w12 HB12.out
  go_wp2_with fail
  refine (HA.out _).mono ?_
  rintro e w13 ⟨rfl, hb13⟩
  have hbf := below_to HB10.out (grow_to HB12.out hb13)
  clear hb13 a0 a1 a2 a4 a6 f0 f1 f2 f4 f6
  go_wp2
  go_ret
  exact ⟨rfl, hbf⟩
end Go.Proofs.Ytfjlnejeffkdoaa
