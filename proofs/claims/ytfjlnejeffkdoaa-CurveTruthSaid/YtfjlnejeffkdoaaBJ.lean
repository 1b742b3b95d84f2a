/- The law CurveTruth, walked where the curve and the rule are not valid, and where they are; what is called given as contracts. -/
import Derived.Test.YtfjlnejeffkdoaaBG
import Derived.Test.YtfjlnejeffkdoaaPP
import Derived.Test.YtfjlnejeffkdoaaAO
import Derived.Deep.CutRange
namespace Go.Proofs.Ytfjlnejeffkdoaa
open Go.RowKit Go.Shelf
attribute [local irreducible] arrV wpQuiet

theorem good_tr {ps : List Pt} {r : Rl} {t : List Int} (G : Good ps r t) : IsTr ps (pad t) := by
  have hl := G.len
  have ht := G.tlen
  refine ⟨pad_len t (by omega), fun i hi => ?_, fun i hi => ?_⟩
  · rw [pad_ld t i (by omega)]
    exact fitB_spec G.fit hi
  · unfold ld pad
    rw [List.getElem?_append_right (by omega), List.getElem?_replicate]
    split <;> rfl

/-- What the chapter says of one truth: what is read is in its span, the points are among those that may be. -/
structure Told (x : Rs) (sp : Int → Option (Int × Int)) (L : Int → List Int) : Prop where
  p : x.pk ∈ L 0
  y : 0 ≤ x.ya → x.ya ∈ L 1
  m : 0 ≤ x.ma → x.ma ∈ L 2
  s : ∀ kd, (kd = 0 ∨ kd = 1 ∨ kd = 2 ∨ kd = 3) → isOf kd x = true → ∃ lo hi, sp kd = some (lo, hi) ∧ lo ≤ numOf kd x ∧ numOf kd x ≤ hi
  e : ∀ kd, (kd = 1 ∨ kd = 2) → (sp kd = none ↔ L kd = [])
  len : ∀ kd, (L kd).length ≤ 20
theorem told {ps : List Pt} {r : Rl} {t : List Int} (F : Sane ps r) (hg : goodsB ps 0 = true) (h : IsTr ps t) : Told (readR ps r t) (spanP ps r) (mayP ps r) where
  p := may_truth F hg 0 (by simp) h (tr_pk F h)
  y := fun hy => may_truth F hg 1 (by simp) h (by show (readR ps r t).ya ≠ -1; omega)
  m := fun hm => may_truth F hg 2 (by simp) h (by show (readR ps r t).ma ≠ -1; omega)
  s := fun kd hk hi => span_all F hg kd hk h hi
  e := fun kd hk => may_none F kd (by omega)
  len := mayP_len ps r

set_option maxRecDepth 100000 in
set_option maxHeartbeats 400000 in
theorem truth_no (sl wv : Value) (d k o : Value) (w : World) (HR : ∀ W, Below w.heap.size w W → Calls Try.prog 41 #[.agg #[sl], .agg #[d, k, o]] W fun e w' => e = .returned (.bool false) ∧ Below W.heap.size W w') :
    Calls Try.prog 8 #[.agg #[sl], .agg #[d, k, o], wv] w fun e w' => e = .returned (.bool true) ∧ Below w.heap.size w w' := by
  have HRR := Lib.hid HR
  have hb2 := below2 w (.cells #[sl] 24) (.cells #[d, k, o] 26)
  have HA := Lib.hid awake_any
  clear HR
  go_enter Try.func8, Try.ntmps8
  go_wp2_with fail
  refine (HRR.out _ hb2).mono ?_
  rintro e w1 ⟨rfl, hb1⟩
  have hbw := below_to hb2 hb1
  clear hb1 hb2
  go_wp2_with fail
  refine (HA.out _).mono ?_
  rintro e w2 ⟨rfl, hb3⟩
  have hbw2 := below_to hbw hb3
  clear hb3 hbw
  go_wp2
  go_ret
  exact ⟨rfl, hbw2⟩

set_option maxRecDepth 100000 in
set_option maxHeartbeats 4000000 in
theorem truth_yes (b off cap m capw : Nat) (aw : Option Addr) (ps : List Pt) (r : Rl) (wd : Nat → Int) (w : World) (hn : ps.length ≤ 20) (h0 : 0 < ps.length) (hg : goodsB ps 0 = true) (hr : ruleB r = true) (hp : PtsIn w b off ps)
    (hm : m ≤ maxLen) (hw : ∀ j, j < m → ∃ bw ow, aw = some ⟨bw, ow, none⟩ ∧ w.cell? ⟨bw, ow + j, none⟩ = some (.int .u16 (wd j)) ∧ 0 ≤ wd j ∧ wd j < 65536)
    (HR : ∀ W, Below w.heap.size w W → Calls Try.prog 41 #[.agg #[.slice (some ⟨b, off, none⟩) ps.length cap], .agg #[.int .i64 r.d, .int .i64 r.k, .int .i64 r.o]] W fun e w' => e = .returned (.bool true) ∧ Below W.heap.size W w') :
    Calls Try.prog 8 #[.agg #[.slice (some ⟨b, off, none⟩) ps.length cap], .agg #[.int .i64 r.d, .int .i64 r.k, .int .i64 r.o], .slice aw m capw] w fun e w' => e = .returned (.bool true) ∧ Below w.heap.size w w' := by
  have F := sane_of hn h0 hg hr
  have HE : bothE ps r = 0 := by simp [bothE, hg, ruleE, hr]
  have hltb := block_lt_of_cell (hp 0 h0).1
  have hlo : ∀ i, i < ps.length → 0 ≤ (pt ps i).lo ∧ (pt ps i).lo ≤ (pt ps i).hi ∧ (pt ps i).hi ≤ 100000 := fun i hi => (goodB_spec hg hi).2.2
  have hfit := pickL_fits (m := m) (wd := wd) (fun i hi => (hlo i hi).2.1) (fun j hj => by obtain ⟨_, _, _, _, h, _⟩ := hw j hj; exact h)
  have hlen := pickL_len ps m wd ps.length
  have HPK := Lib.hid fun W (hb : Below w.heap.size w W) => Picked_any b off cap m capw aw ps wd W hn h0 (hp.below hb hltb) hlo hm (fun j hj => by
    obtain ⟨bw, ow, h1, h2, h3⟩ := hw j hj
    exact ⟨bw, ow, h1, (hb.cell (p := ⟨bw, ow + j, none⟩) (block_lt_of_cell h2)).trans h2, h3⟩)
  generalize ht : pickL ps m wd ps.length = t at *
  clear ht
  have G : Good ps r t := ⟨hn, h0, hg, hr, hlen, hfit⟩
  have HT := told F hg (good_tr G)
  have HCV := Lib.hid fun W (hb : Below w.heap.size w W) => Curve_any b off cap ps W hn h0 (hp.below hb hltb)
  have HRD := Lib.hid fun (B2 c2 B3 c3 : Nat) W h1 h2 => Read_ok B2 0 c2 B3 0 c3 ps r t W G h1 h2
  have HPO := Lib.hid fun (B c : Nat) W (h : PtsIn W B 0 ps) => Points_ok B 0 c ps r W F HE h
  have HSP := Lib.hid fun (B c : Nat) (kd : Int) (hk : kd = 0 ∨ kd = 1 ∨ kd = 2 ∨ kd = 3) W (h : PtsIn W B 0 ps) => Span_kd B 0 c kd ps r W F HE hk h
  have HTL := Lib.hid hlen
  generalize readR ps r (pad t) = x at *
  generalize spanP ps r = sp at *
  generalize mayP ps r = mp at *
  have HTO := Lib.hid HT
  have HRR := Lib.hid HR
  have HA := Lib.hid awake_any
  have HH0 := Lib.hid h0
  have hb2 := below2 w (.cells #[.slice (some ⟨b, off, none⟩) ps.length cap] 24) (.cells #[.int .i64 r.d, .int .i64 r.k, .int .i64 r.o] 26)
  obtain ⟨hx1, hx2⟩ := box2 w (.cells #[.slice (some ⟨b, off, none⟩) ps.length cap] 24) (.cells #[.int .i64 r.d, .int .i64 r.k, .int .i64 r.o] 26)
  clear HR hp hw hm hfit G hlen hg hr hn h0 F HE HT hlo hltb
  go_enter Try.func8, Try.ntmps8
  go_wp2_with fail
  generalize World.alloc (World.alloc w _) _ = W1 at *
  refine (HRR.out _ hb2).mono ?_
  rintro e w1 ⟨rfl, hb1⟩
  have HBW := Lib.hid (below_to hb2 hb1)
  have HC : Hid (∀ w', Below w1.heap.size w1 w' → w'.cell? ⟨w.heap.size, 0, none⟩ = some (.slice (some ⟨b, off, none⟩) ps.length cap) ∧ w'.cell? ⟨w.heap.size + 1, 0, none⟩ = some (.int .i64 r.d) ∧ w'.cell? ⟨w.heap.size + 1, 1, none⟩ = some (.int .i64 r.k) ∧ w'.cell? ⟨w.heap.size + 1, 2, none⟩ = some (.int .i64 r.o)) := Lib.hid fun w' h => by
    have z1 := (hb1.block _ (lt_of_block hx1)).trans hx1
    have z2 := (hb1.block _ (lt_of_block hx2)).trans hx2
    have y1 := (h.block _ (lt_of_block z1)).trans z1
    have y2 := (h.block _ (lt_of_block z2)).trans z2
    exact ⟨cell_of_row w' w.heap.size 0 _ _ _ y1, cell_of_row w' (w.heap.size + 1) 0 _ _ _ y2, cell_of_row w' (w.heap.size + 1) 1 _ _ _ y2, cell_of_row w' (w.heap.size + 1) 2 _ _ _ y2⟩
  have HB : Hid (Below w1.heap.size w1 w1) := Lib.hid (Below.refl _ _)
  clear hb1 hb2 hx1 hx2
  clear W1
  go_wp2
  refine wp_region_noPanic ?_
  refine wp_region_float (by kernel_rfl) (fun _ _ _ _ _ h => h) 11 _ rfl 7 rfl rfl (.cells zero37 37) (fun a w => by kernel_rfl)
    [(false, 0), (false, 2), (false, 4), (false, 5), (true, 1), (true, 3), (true, 6), (true, 7), (false, 8), (false, 9), (false, 10)] [12, 13] (by kernel_rfl) ?_
  iterate 4
    (refine Walk.takes rfl rfl ?_; apply Exists.intro; refine ⟨fun w' hS => ?_, ?_⟩; (obtain ⟨d0, d1, d2, d3⟩ := HC.out w' (grow_to HB.out hS); clear hS; go_simp; with_reducible rfl); simp only [List.getElem_toArray, List.getElem_cons_succ, List.getElem_cons_zero, Act.put, List.setIfInBounds_toArray, List.set_cons_zero, List.set_cons_succ])
  refine Walk.calls rfl rfl ?_; apply Exists.intro; apply Exists.intro; refine ⟨fun w' hS => ?_, fun w' hba => ?_⟩; (clear hS; go_simp; exact ⟨rfl, rfl⟩)
  have hu0 := grow_to HB.out (grow_to (below_drawn _) hba)
  refine (HCV.out w' (below_to HBW.out hu0)).mono ?_
  rintro e u1 ⟨B2, c2, rfl, hp2, hB2, hbb⟩
  refine ⟨_, rfl, hbb, ?_⟩
  simp only [List.getElem_toArray, List.getElem_cons_succ, List.getElem_cons_zero, Act.put, List.setIfInBounds_toArray, List.set_cons_zero, List.set_cons_succ]
  have hl2 : B2 < u1.heap.size := block_lt_of_cell (hp2 0 HH0.out).1
  have hu1 := grow_to hu0 hbb
  clear hba hbb hB2 hu0
  refine Walk.calls rfl rfl ?_; apply Exists.intro; apply Exists.intro; refine ⟨fun w' hS => ?_, fun w' hba => ?_⟩; (clear hS; go_simp; exact ⟨rfl, rfl⟩)
  refine (Rule_any r.d r.k r.o w').mono ?_
  rintro e u2 ⟨rfl, hbb⟩
  refine ⟨_, rfl, hbb, ?_⟩
  simp only [List.getElem_toArray, List.getElem_cons_succ, List.getElem_cons_zero, Act.put, List.setIfInBounds_toArray, List.set_cons_zero, List.set_cons_succ]
  replace hp2 := (hp2.below hba hl2).below hbb (Nat.lt_of_lt_of_le hl2 hba.size)
  replace hl2 : B2 < u2.heap.size := block_lt_of_cell (hp2 0 HH0.out).1
  have hu2 := grow_to (grow_to hu1 hba) hbb
  clear hba hbb hu1
  refine Walk.calls rfl rfl ?_; apply Exists.intro; apply Exists.intro; refine ⟨fun w' hS => ?_, fun w' hba => ?_⟩; (clear hS; go_simp; exact ⟨rfl, rfl⟩)
  refine (HPK.out w' (below_to HBW.out (grow_to hu2 hba))).mono ?_
  rintro e u3 ⟨B1, c1, rfl, hi1, hB1, hbb⟩
  refine ⟨_, rfl, hbb, ?_⟩
  simp only [List.getElem_toArray, List.getElem_cons_succ, List.getElem_cons_zero, Act.put, List.setIfInBounds_toArray, List.set_cons_zero, List.set_cons_succ]
  replace hp2 := (hp2.below hba hl2).below hbb (Nat.lt_of_lt_of_le hl2 hba.size)
  replace hl2 : B2 < u3.heap.size := block_lt_of_cell (hp2 0 HH0.out).1
  have hl3 := block_lt_of_cell (hi1 0 (by rw [HTL.out]; exact HH0.out))
  clear hba hbb hu2 hB1
  refine Walk.calls rfl rfl ?_; apply Exists.intro; apply Exists.intro; refine ⟨fun w' hS => ?_, fun w' hba => ?_⟩; (clear hS; go_simp; exact ⟨rfl, rfl⟩)
  refine (HRD.out B2 c2 B1 c1 w' (hp2.below hba hl2) (hi1.below hba hl3)).mono ?_
  rintro e u4 ⟨rfl, hbb⟩
  refine ⟨_, rfl, hbb, ?_⟩
  simp only [List.getElem_toArray, List.getElem_cons_succ, List.getElem_cons_zero, Act.put, List.setIfInBounds_toArray, List.set_cons_zero, List.set_cons_succ]
  clear hba hbb hp2 hi1 hl2 hl3 u1 u2 u3
  iterate 3
    (refine Walk.takes rfl rfl ?_; apply Exists.intro; refine ⟨fun w' hS => ?_, ?_⟩; (clear hS; go_simp; with_reducible rfl); simp only [List.getElem_toArray, List.getElem_cons_succ, List.getElem_cons_zero, Act.put, List.setIfInBounds_toArray, List.set_cons_zero, List.set_cons_succ])
  refine Walk.fin ?_
  intro v7 hb7 b8 hbb8 hz8 hw7
  simp only [List.getElem_toArray, List.getElem_cons_succ, List.getElem_cons_zero, Act.put, List.setIfInBounds_toArray, List.set_cons_zero, List.set_cons_succ]
  have hs37 : (Try.prog.info? 37).map (·.size) = some (rsV x).size := s37
  have n1 := set_whole b8 37 v7 zero37 (rsV x) rfl hz8
  have n3 := below_cells (b := b8) hbb8 (rsV x).toList 0 v7 hw7
  refine Tail.skip rfl rfl (exec_store_row 37 (.tmp 7) (.tmp 32) rfl b8 0 (rsV x) rfl rfl (there_block hz8 (Nat.le_refl _)) hs37 (by simp [rsV, iV, Value.oneCell'])) n3 ?_
  simp only [List.getElem_toArray, List.getElem_cons_succ, List.getElem_cons_zero, Act.put, List.setIfInBounds_toArray, List.set_cons_zero, List.set_cons_succ]
  generalize v7.setCells b8 0 (rsV x).toList = w2 at *
  iterate 1
    (refine Tail.value rfl rfl (by go_simp; with_reducible rfl) ?_; simp only [List.getElem_toArray, List.getElem_cons_succ, List.getElem_cons_zero, Act.put, List.setIfInBounds_toArray, List.set_cons_zero, List.set_cons_succ])
  refine Tail.done (NoPanic.normal ?_)
  clear hz8 hw7 hb7 hs37 hbb8 u4
  clear v7
  replace HB := Lib.hid (grow_to HB.out n3)
  have N8 := Lib.hid n1
  clear n1 n3
  go_wp2
  refine wp_region_noPanic ?_
  refine wp_region_chain (fun w' => Below w2.heap.size w2 w') (fun _ _ h hb => grow_to h hb) (below_drawn _) (by kernel_rfl) (fun _ _ _ _ _ h => h)
    [(false, 0), (false, 2), (true, 1), (true, 3), (true, 4), (false, 5), (false, 6), (false, 7), (false, 8), (false, 9)] [10, 11, 12, 13] (by kernel_rfl) ?_
  iterate 2
    (refine Walk.takes rfl rfl ?_; apply Exists.intro; refine ⟨fun w' hS => ?_, ?_⟩; (obtain ⟨d0, d1, d2, d3⟩ := HC.out w' (grow_to HB.out hS); clear hS; go_simp; with_reducible rfl); simp only [List.getElem_toArray, List.getElem_cons_succ, List.getElem_cons_zero, Act.put, List.setIfInBounds_toArray, List.set_cons_zero, List.set_cons_succ])
  refine Walk.calls rfl rfl ?_; apply Exists.intro; apply Exists.intro; refine ⟨fun w' hS => ?_, fun w' hba => ?_⟩; (clear hS; go_simp; exact ⟨rfl, rfl⟩)
  have hu0 := grow_to HB.out (grow_to (below_drawn _) hba)
  refine (HCV.out w' (below_to HBW.out hu0)).mono ?_
  rintro e u1 ⟨B2, c2, rfl, hp2, hB2, hbb⟩
  refine ⟨_, rfl, hbb, ?_⟩
  simp only [List.getElem_toArray, List.getElem_cons_succ, List.getElem_cons_zero, Act.put, List.setIfInBounds_toArray, List.set_cons_zero, List.set_cons_succ]
  have hl2 : B2 < u1.heap.size := block_lt_of_cell (hp2 0 HH0.out).1
  have hu1 := grow_to hu0 hbb
  clear hba hbb hB2 hu0
  refine Walk.calls rfl rfl ?_; apply Exists.intro; apply Exists.intro; refine ⟨fun w' hS => ?_, fun w' hba => ?_⟩; (clear hS; go_simp; exact ⟨rfl, rfl⟩)
  refine (Rule_any r.d r.k r.o w').mono ?_
  rintro e u2 ⟨rfl, hbb⟩
  refine ⟨_, rfl, hbb, ?_⟩
  simp only [List.getElem_toArray, List.getElem_cons_succ, List.getElem_cons_zero, Act.put, List.setIfInBounds_toArray, List.set_cons_zero, List.set_cons_succ]
  replace hp2 := (hp2.below hba hl2).below hbb (Nat.lt_of_lt_of_le hl2 hba.size)
  replace hl2 : B2 < u2.heap.size := block_lt_of_cell (hp2 0 HH0.out).1
  have hu2 := grow_to (grow_to hu1 hba) hbb
  clear hba hbb hu1
  refine Walk.calls rfl rfl ?_; apply Exists.intro; apply Exists.intro; refine ⟨fun w' hS => ?_, fun w' hba => ?_⟩; (clear hS; go_simp; exact ⟨rfl, rfl⟩)
  refine (HPO.out B2 c2 w' (hp2.below hba hl2)).mono ?_
  rintro e u3 ⟨v0, v1, v2, rfl, hv0, hv1, hv2, hbb⟩
  refine ⟨_, rfl, hbb, ?_⟩
  simp only [List.getElem_toArray, List.getElem_cons_succ, List.getElem_cons_zero, Act.put, List.setIfInBounds_toArray, List.set_cons_zero, List.set_cons_succ]
  clear hba hbb hp2 hl2 hu2
  clear u1 u2
  iterate 5
    (refine Walk.takes rfl rfl ?_; apply Exists.intro; refine ⟨fun w' hS => ?_, ?_⟩; (clear hS; go_simp; with_reducible rfl); simp only [List.getElem_toArray, List.getElem_cons_succ, List.getElem_cons_zero, Act.put, List.setIfInBounds_toArray, List.set_cons_zero, List.set_cons_succ])
  refine Walk.fin ?_
  intro w3 hb9 hS9
  have V0 := Lib.hid (hv0.below hb9)
  have V1 := Lib.hid (hv1.below hb9)
  have V2 := Lib.hid (hv2.below hb9)
  clear hb9 hv0 hv1 hv2
  clear u3
  iterate 4
    (refine Tail.value rfl rfl (by go_simp; with_reducible rfl) ?_; simp only [List.getElem_toArray, List.getElem_cons_succ, List.getElem_cons_zero, Act.put, List.setIfInBounds_toArray, List.set_cons_zero, List.set_cons_succ])
  refine Tail.done (NoPanic.normal ?_)
  replace HB := Lib.hid (grow_to HB.out hS9)
  replace N8 := Lib.hid ((hS9.block _ (lt_of_block N8.out)).trans N8.out)
  clear hS9
  clear w2
  have HF : Hid (∀ w', Below w3.heap.size w3 w' → w'.cell? ⟨b8, 0, none⟩ = some (.int .i64 x.st) ∧ w'.cell? ⟨b8, 1, none⟩ = some (.int .i64 x.pk) ∧ w'.cell? ⟨b8, 2, none⟩ = some (.int .i64 x.ya) ∧ w'.cell? ⟨b8, 3, none⟩ = some (.int .i64 x.y) ∧ w'.cell? ⟨b8, 4, none⟩ = some (.int .i64 x.ma) ∧ w'.cell? ⟨b8, 5, none⟩ = some (.int .i64 x.pl) ∧ w'.cell? ⟨b8, 6, none⟩ = some (.int .i64 x.wk)) := Lib.hid fun w' h => by
    have y1 := (h.block _ (lt_of_block N8.out)).trans N8.out
    exact ⟨cell_of_row w' b8 0 _ _ _ y1, cell_of_row w' b8 1 _ _ _ y1, cell_of_row w' b8 2 _ _ _ y1, cell_of_row w' b8 3 _ _ _ y1, cell_of_row w' b8 4 _ _ _ y1, cell_of_row w' b8 5 _ _ _ y1, cell_of_row w' b8 6 _ _ _ y1⟩
  have H0 := Lib.hid fun W (hb : Below w3.heap.size w3 W) => has_list v0 (mp 0) x.pk W (by have := HTO.out.len 0; omega) (V0.out.below hb)
  have H1 := Lib.hid fun W (hb : Below w3.heap.size w3 W) => has_list v1 (mp 1) x.ya W (by have := HTO.out.len 1; omega) (V1.out.below hb)
  have H2 := Lib.hid fun W (hb : Below w3.heap.size w3 W) => has_list v2 (mp 2) x.ma W (by have := HTO.out.len 2; omega) (V2.out.below hb)
  rw [decide_eq_true HTO.out.p] at H0
  obtain ⟨sa1, cp1, hv1, -⟩ := V1.out.sl
  obtain ⟨sa2, cp2, hv2, -⟩ := V2.out.sl
  have hl1 := HTO.out.e 1 (.inl rfl)
  have hl2 := HTO.out.e 2 (.inr rfl)
  rw [← List.length_eq_zero_iff] at hl1 hl2
  generalize (mp 1).length = n1 at hv1 hl1
  generalize (mp 2).length = n2 at hv2 hl2
  subst hv1 hv2
  have HL1 := Lib.hid hl1
  have HL2 := Lib.hid hl2
  clear hl1 hl2
  clear N8 V0 V1 V2
  go_upto_region 5 with fail
  go_cut [80] from 18 to 80 (fun s80 wx => s80 = .bool false ∧ Hid (Below w3.heap.size w3 wx))
  case first => as_aux_lemma =>
    obtain ⟨f0, f1, f2, f3, f4, f5, f6⟩ := HF.out w3 (Below.refl _ _)
    go_wp2_with fail
    refine (H0.out w3 (Below.refl _ _)).mono ?_
    rintro e w4 ⟨rfl, hb4⟩
    have HB4 := Lib.hid hb4
    clear hb4 f0 f1 f2 f3 f4 f5 f6
    by_cases hya : 0 ≤ x.ya
    · rw [decide_eq_true (HTO.out.y hya)] at H1
      obtain ⟨f0, f1, f2, f3, f4, f5, f6⟩ := HF.out w4 HB4.out
      go_wp2_with fail
      refine (H1.out w4 HB4.out).mono ?_
      rintro e w5 ⟨rfl, hb5⟩
      have HB5 := Lib.hid (grow_to HB4.out hb5)
      clear hb5 f0 f1 f2 f3 f4 f5 f6
      obtain ⟨f0, f1, f2, f3, f4, f5, f6⟩ := HF.out w5 HB5.out
      by_cases hma : 0 ≤ x.ma
      · rw [decide_eq_true (HTO.out.m hma)] at H2
        go_wp2_with fail
        refine (H2.out w5 HB5.out).mono ?_
        rintro e w6 ⟨rfl, hb6⟩
        have HB6 := Lib.hid (grow_to HB5.out hb6)
        clear hb6 f0 f1 f2 f3 f4 f5 f6
        go_wp2
        go_meet
        case rel => exact ⟨rfl, HB6⟩
      · have hmf : decide (x.ma ≥ 0) = false := by simp; omega
        go_wp2
        go_meet
        case rel => exact ⟨rfl, HB5⟩
    · have hyf : decide (x.ya ≥ 0) = false := by simp; omega
      obtain ⟨f0, f1, f2, f3, f4, f5, f6⟩ := HF.out w4 HB4.out
      by_cases hma : 0 ≤ x.ma
      · rw [decide_eq_true (HTO.out.m hma)] at H2
        go_wp2_with fail
        refine (H2.out w4 HB4.out).mono ?_
        rintro e w6 ⟨rfl, hb6⟩
        have HB6 := Lib.hid (grow_to HB4.out hb6)
        clear hb6 f0 f1 f2 f3 f4 f5 f6
        go_wp2
        go_meet
        case rel => exact ⟨rfl, HB6⟩
      · have hmf : decide (x.ma ≥ 0) = false := by simp; omega
        go_wp2
        go_meet
        case rel => exact ⟨rfl, HB4⟩
  case rest =>
    obtain ⟨rfl, HX⟩ := hcut
    clear H0 H1 H2
    go_wp2
    go_loopw [13] (fun i wr => ∃ q : Nat, q ≤ 4 ∧ i = .int .u8 q ∧ Hid (Below w3.heap.size w3 wr)) (fun i _ => 4 - (intOf i).toNat)
    case atStart => exact ⟨0, by omega, rfl, HX⟩
    case round =>
      obtain ⟨q, hq, rfl, HXq⟩ := hrel
      clear HX
      by_cases hlt : q < 4
      · have hq4 : (q : Int) < 4 := by omega
        have hkd : (q : Int) = 0 ∨ (q : Int) = 1 ∨ (q : Int) = 2 ∨ (q : Int) = 3 := by omega
        have HKD := Lib.hid hkd
        have hwu : IntKind.u8.wrap ((q : Int) + 1) = (q : Int) + 1 := by simp [IntKind.wrap, IntKind.signed, IntKind.bits]; omega
        have HBo := HB
        replace HB := Lib.hid (grow_to HBo.out HXq.out)
        clear hkd
        go_wp2
        refine wp_region_noPanic ?_
        refine wp_region_float (by kernel_rfl) (fun _ _ _ _ _ h => h) 9 _ rfl 14 rfl rfl (.cells #[.int .i64 0, .int .i64 0] 51) (fun a w => by kernel_rfl)
          [(false, 0), (false, 2), (false, 4), (true, 1), (true, 3), (true, 5), (false, 6), (false, 7), (false, 8)] [10, 11] (by kernel_rfl) ?_
        iterate 3
          (refine Walk.takes rfl rfl ?_; apply Exists.intro; refine ⟨fun w' hS => ?_, ?_⟩; (obtain ⟨d0, d1, d2, d3⟩ := HC.out w' (grow_to HB.out hS); clear hS; go_simp; with_reducible rfl); simp only [List.getElem_toArray, List.getElem_cons_succ, List.getElem_cons_zero, Act.put, List.setIfInBounds_toArray, List.set_cons_zero, List.set_cons_succ])
        refine Walk.calls rfl rfl ?_; apply Exists.intro; apply Exists.intro; refine ⟨fun w' hS => ?_, fun w' hba => ?_⟩; (clear hS; go_simp; exact ⟨rfl, rfl⟩)
        have hu0 := grow_to HB.out (grow_to (below_drawn _) hba)
        refine (HCV.out w' (below_to HBW.out hu0)).mono ?_
        rintro e u1 ⟨B2, c2, rfl, hp2, hB2, hbb⟩
        refine ⟨_, rfl, hbb, ?_⟩
        simp only [List.getElem_toArray, List.getElem_cons_succ, List.getElem_cons_zero, Act.put, List.setIfInBounds_toArray, List.set_cons_zero, List.set_cons_succ]
        have hl2 : B2 < u1.heap.size := block_lt_of_cell (hp2 0 HH0.out).1
        have hu1 := grow_to hu0 hbb
        clear hba hbb hB2 hu0
        refine Walk.calls rfl rfl ?_; apply Exists.intro; apply Exists.intro; refine ⟨fun w' hS => ?_, fun w' hba => ?_⟩; (clear hS; go_simp; exact ⟨rfl, rfl⟩)
        refine (Rule_any r.d r.k r.o w').mono ?_
        rintro e u2 ⟨rfl, hbb⟩
        refine ⟨_, rfl, hbb, ?_⟩
        simp only [List.getElem_toArray, List.getElem_cons_succ, List.getElem_cons_zero, Act.put, List.setIfInBounds_toArray, List.set_cons_zero, List.set_cons_succ]
        replace hp2 := (hp2.below hba hl2).below hbb (Nat.lt_of_lt_of_le hl2 hba.size)
        replace hl2 : B2 < u2.heap.size := block_lt_of_cell (hp2 0 HH0.out).1
        have hu2 := grow_to (grow_to hu1 hba) hbb
        clear hba hbb hu1
        refine Walk.calls rfl rfl ?_; apply Exists.intro; apply Exists.intro; refine ⟨fun w' hS => ?_, fun w' hba => ?_⟩; (clear hS; go_simp; exact ⟨rfl, rfl⟩)
        refine (HSP.out B2 c2 q HKD.out w' (hp2.below hba hl2)).mono ?_
        rintro e u3 ⟨rfl, hbb⟩
        refine ⟨_, rfl, hbb, ?_⟩
        simp only [List.getElem_toArray, List.getElem_cons_succ, List.getElem_cons_zero, Act.put, List.setIfInBounds_toArray, List.set_cons_zero, List.set_cons_succ]
        clear hba hbb hp2 hl2 hu2 u1 u2
        obtain ⟨lo, hi, ev, hsr, hev⟩ := span_form (sp q)
        rw [hsr]
        have HEV := Lib.hid hev
        clear hsr hev
        iterate 3
          (refine Walk.takes rfl rfl ?_; apply Exists.intro; refine ⟨fun w' hS => ?_, ?_⟩; (clear hS; go_simp; with_reducible rfl); simp only [List.getElem_toArray, List.getElem_cons_succ, List.getElem_cons_zero, Act.put, List.setIfInBounds_toArray, List.set_cons_zero, List.set_cons_succ])
        refine Walk.fin ?_
        intro v7 hb7 b9 hbb8 hz8 hw7
        simp only [List.getElem_toArray, List.getElem_cons_succ, List.getElem_cons_zero, Act.put, List.setIfInBounds_toArray, List.set_cons_zero, List.set_cons_succ]
        have s51 : (Try.prog.info? 51).map (·.size) = some 2 := by kernel_rfl
        have n1 := set_whole b9 51 v7 #[.int .i64 0, .int .i64 0] #[.int .i64 lo, .int .i64 hi] rfl hz8
        have n3 := below_cells (b := b9) hbb8 [.int .i64 lo, .int .i64 hi] 0 v7 hw7
        refine Tail.skip rfl rfl (exec_store_row 51 (.tmp 14) (.tmp 92) rfl b9 0 #[.int .i64 lo, .int .i64 hi] rfl rfl (there_block hz8 (Nat.le_refl _)) s51 (by simp [Value.oneCell'])) n3 ?_
        simp only [List.getElem_toArray, List.getElem_cons_succ, List.getElem_cons_zero, Act.put, List.setIfInBounds_toArray, List.set_cons_zero, List.set_cons_succ]
        generalize v7.setCells b9 0 _ = w4 at *
        iterate 1
          (refine Tail.value rfl rfl (by go_simp; with_reducible rfl) ?_; simp only [List.getElem_toArray, List.getElem_cons_succ, List.getElem_cons_zero, Act.put, List.setIfInBounds_toArray, List.set_cons_zero, List.set_cons_succ])
        refine Tail.done (NoPanic.normal ?_)
        clear hz8 hw7 hb7 s51 hbb8 u3
        clear v7
        replace HXq := Lib.hid (grow_to HXq.out n3)
        have N9 := Lib.hid n1
        clear n1 n3 HB
        have HB := HBo
        clear HBo
        clear wr
        obtain ⟨f0, f1, f2, f3, f4, f5, f6⟩ := HF.out w4 HXq.out
        have HN := Lib.hid (number_any q x)
        rw [show rsV x = #[.int .i64 x.st, .int .i64 x.pk, .int .i64 x.ya, .int .i64 x.y, .int .i64 x.ma, .int .i64 x.pl, .int .i64 x.wk] from rfl] at HN
        go_wp2_with fail
        refine (HN.out w4 HKD.out).mono ?_
        rintro e w5 ⟨rfl, hb5⟩
        have HX5 := Lib.hid (grow_to HXq.out hb5)
        have N5 := Lib.hid ((hb5.block _ (lt_of_block N9.out)).trans N9.out)
        clear hb5 f0 f1 f2 f3 f4 f5 f6 HN N9 HXq
        clear w4
        have HTS := Lib.hid (HTO.out.s q HKD.out)
        generalize numOf q x = nn at *
        generalize isOf q x = iv at *
        have g0 := cell_of_row w5 b9 0 _ _ _ N5.out
        have g1 := cell_of_row w5 b9 1 _ _ _ N5.out
        simp at g0 g1
        go_upto_region 12 with fail
        go_cut [127] from 81 to 149 (fun s127 wx => s127 = .bool false ∧ Hid (Below w3.heap.size w3 wx))
        case first => as_aux_lemma =>
          rcases HEV.out with ⟨hs, he⟩ | ⟨hs, he⟩
          · subst he
            obtain rfl : iv = false := by
              cases hiv : iv with
              | false => rfl
              | true =>
                obtain ⟨lo', hi', h1, _⟩ := HTS.out hiv
                rw [hs] at h1
                cases h1
            go_wp2
            go_meet
            case rel => exact ⟨rfl, HX5⟩
          · subst he
            rcases (by cases iv <;> simp : iv = false ∨ iv = true) with hiv | hiv
            · subst hiv
              go_wp2
              go_meet
              case rel => exact ⟨rfl, HX5⟩
            · obtain ⟨lo', hi', h1, h2, h3⟩ := HTS.out hiv
              subst hiv
              rw [hs] at h1
              cases h1
              have hl1 : ¬ nn < lo := by omega
              have hl2 : ¬ nn > hi := by omega
              have hl1' : decide (nn < lo) = false := decide_eq_false hl1
              have hl2' : decide (nn > hi) = false := decide_eq_false hl2
              go_wp2
              go_meet
              case rel => exact ⟨rfl, HX5⟩
        case rest =>
          obtain ⟨rfl, HX6⟩ := hcut
          clear N5 HX5 g0 g1 HTS
          go_upto_region 14 with fail
          go_cut [149] from 81 to 149 (fun s149 wx => s149 = .bool false ∧ Hid (Below w3.heap.size w3 wx))
          case first => as_aux_lemma =>
            have HK := HKD.out
            have hq0 : q = 0 ∨ q = 1 ∨ q = 2 ∨ q = 3 := by omega
            have he1 : q = 1 → (ev = 0 ∧ 0 < n1) ∨ (ev = 7 ∧ n1 = 0) := fun h => by
              subst h
              rcases HEV.out with ⟨hs, he⟩ | ⟨hs, he⟩
              · exact .inr ⟨he, HL1.out.1 hs⟩
              · refine .inl ⟨he, Nat.pos_of_ne_zero fun hc => ?_⟩
                have hs' : sp 1 = some (lo, hi) := hs
                rw [HL1.out.2 hc] at hs'
                cases hs'
            have he2 : q = 2 → (ev = 0 ∧ 0 < n2) ∨ (ev = 7 ∧ n2 = 0) := fun h => by
              subst h
              rcases HEV.out with ⟨hs, he⟩ | ⟨hs, he⟩
              · exact .inr ⟨he, HL2.out.1 hs⟩
              · refine .inl ⟨he, Nat.pos_of_ne_zero fun hc => ?_⟩
                have hs' : sp 2 = some (lo, hi) := hs
                rw [HL2.out.2 hc] at hs'
                cases hs'
            rcases hq0 with rfl | rfl | rfl | rfl
            · go_wp2
              go_meet
              case rel => exact ⟨rfl, HX6⟩
            · rcases he1 rfl with ⟨e1, e2⟩ | ⟨e1, e2⟩
              · subst e1
                have e2' : (n1 : Int) > 0 := by omega
                go_wp2
                go_meet
                case rel => exact ⟨rfl, HX6⟩
              · subst e1 e2
                go_wp2
                go_meet
                case rel => exact ⟨rfl, HX6⟩
            · rcases he2 rfl with ⟨e1, e2⟩ | ⟨e1, e2⟩
              · subst e1
                have e2' : (n2 : Int) > 0 := by omega
                go_wp2
                go_meet
                case rel => exact ⟨rfl, HX6⟩
              · subst e1 e2
                go_wp2
                go_meet
                case rel => exact ⟨rfl, HX6⟩
            · go_wp2
              go_meet
              case rel => exact ⟨rfl, HX6⟩
          case rest =>
            obtain ⟨rfl, HX7⟩ := hcut
            go_wp2
            go_roundw
            case rel => exact ⟨q + 1, by omega, by simp, HX7⟩
            case measure => simp [intOf] <;> omega
      · obtain rfl : q = 4 := by omega
        have HBo := Lib.hid (grow_to HB.out HXq.out)
        go_wp2_with fail
        refine (HA.out _).mono ?_
        rintro e w13 ⟨rfl, hb13⟩
        have hbf := below_to HBW.out (grow_to HBo.out hb13)
        clear hb13
        go_wp2
        go_ret
        exact ⟨rfl, hbf⟩
end Go.Proofs.Ytfjlnejeffkdoaa
