/- The law CurveEnds, walked where the curve and the rule are valid; what is called given as contracts. -/
import Derived.Test.YtfjlnejeffkdoaaAN
import Derived.Test.YtfjlnejeffkdoaaAL
import Derived.Test.YtfjlnejeffkdoaaAE
import Derived.Test.YtfjlnejeffkdoaaOO
namespace Go.Proofs.Ytfjlnejeffkdoaa
open Go.RowKit Go.Shelf
attribute [local irreducible] arrV wpQuiet

theorem sane_of {ps : List Pt} {r : Rl} (hn : ps.length ≤ 20) (h0 : 0 < ps.length) (hg : goodsB ps 0 = true) (hr : ruleB r = true) : Sane ps r := by
  have hrb : (1 ≤ r.d ∧ r.d ≤ 100000) ∧ (1 ≤ r.k ∧ r.k ≤ 1000) ∧ 0 ≤ r.o ∧ r.o ≤ 1000 := by simpa [ruleB, hasB] using hr
  exact ⟨hn, h0, fun i hi => (goodB_spec hg hi).2.1, fun i hi => by have := (goodB_spec hg hi).2.2; omega, hrb.2.1, hrb.2.2, hrb.1⟩
theorem pad_take {ps : List Pt} {t : List Int} (h : IsTr ps t) (hn : ps.length ≤ 20) : pad (t.take ps.length) = t := by
  obtain ⟨h1, _, h3⟩ := h
  apply List.ext_getElem?
  intro i
  unfold pad
  by_cases hi : i < ps.length
  · rw [List.getElem?_append_left (by simp; omega), List.getElem?_take, if_pos hi]
  · rw [List.getElem?_append_right (by simp; omega), List.getElem?_replicate]
    by_cases h20 : i < 20
    · rw [if_pos (by simp; omega)]
      have := h3 i (by omega)
      unfold ld at this
      rw [List.getElem?_eq_getElem (by omega)] at this ⊢
      simp at this
      rw [this]
    · rw [if_neg (by simp; omega), List.getElem?_eq_none (by omega)]
theorem fits_take {ps : List Pt} {t : List Int} (h : IsTr ps t) : fitsB ps (t.take ps.length) 0 = true := by
  simp only [fitsB, decide_eq_true_eq]
  intro j hj _
  have := h.2.1 j hj
  unfold fitB hasB
  rw [ld_take t ps.length j hj, decide_eq_true_eq]
  exact this

set_option maxRecDepth 100000 in
set_option maxHeartbeats 400000 in
theorem ends_no (sl kv : Value) (d k o : Value) (w : World) (HR : ∀ W, Below w.heap.size w W → Calls Try.prog 41 #[.agg #[sl], .agg #[d, k, o]] W fun e w' => e = .returned (.bool false) ∧ Below W.heap.size W w') :
    Calls Try.prog 9 #[.agg #[sl], .agg #[d, k, o], kv] w fun e w' => e = .returned (.bool true) ∧ Below w.heap.size w w' := by
  have HRR := Lib.hid HR
  have hb2 := below2 w (.cells #[sl] 24) (.cells #[d, k, o] 26)
  have HA := Lib.hid awake_any
  clear HR
  go_enter Try.func9, Try.ntmps9
  go_wp2_with fail
  refine (HRR.out _ hb2).mono ?_
  rintro e w1 ⟨rfl, hb1⟩
  have hbw := below_to hb2 hb1
  clear hb1 hb2
  go_wp2_with fail
  refine (HA.out _).mono ?_
  rintro e w2 ⟨rfl, hb3⟩
  have hbw2 := below_to hbw hb3
  clear hb3 hbw
  go_wp2
  go_ret
  exact ⟨rfl, hbw2⟩

theorem show_form {ps : List Pt} {r : Rl} {fnd : Rs → Int × Int} {high : Bool} {H : Nat} {w' : World} {o : Option (Int × Int)} {v : Value} (h : ShowP ps r fnd high H w' o v) :
    ∃ (lv : Value) (fv : Int), v = .tuple #[lv, .int .i64 fv] ∧ ((o = none ∧ fv = 7) ∨ ∃ lo hi t B c, o = some (lo, hi) ∧ fv = 0 ∧ IsTr ps t ∧ (fnd (readR ps r t)).1 ≠ -1 ∧ (fnd (readR ps r t)).2 = (if high then hi else lo) ∧ lv = .slice (some ⟨B, 0, none⟩) ps.length c ∧ IntsIn w' B 0 (t.take ps.length)) := by
  cases o with
  | none => exact ⟨_, _, h, .inl ⟨rfl, rfl⟩⟩
  | some x =>
    obtain ⟨lo, hi⟩ := x
    obtain ⟨t, B, c, h1, h2, h3, h4, h5, _⟩ := h
    exact ⟨_, _, h4, .inr ⟨lo, hi, t, B, c, rfl, rfl, h1, h2, h3, rfl, h5⟩⟩
theorem span_form (o : Option (Int × Int)) : ∃ (lo hi ev : Int), spanR o = .tuple #[.agg #[.int .i64 lo, .int .i64 hi], .int .i64 ev] ∧ ((o = none ∧ ev = 7) ∨ (o = some (lo, hi) ∧ ev = 0)) := by
  cases o with
  | none => exact ⟨0, 0, 7, rfl, .inl ⟨rfl, rfl⟩⟩
  | some x => exact ⟨x.1, x.2, 0, rfl, .inr ⟨rfl, rfl⟩⟩

set_option maxRecDepth 100000 in
set_option maxHeartbeats 4000000 in
theorem ends_yes (b off cap : Nat) (ps : List Pt) (r : Rl) (kind kd : Int) (ft fg : Nat) (fnd : Rs → Int × Int) (ts : List (List Int)) (w : World) (hn : ps.length ≤ 20) (h0 : 0 < ps.length) (hg : goodsB ps 0 = true) (hr : ruleB r = true) (hp : PtsIn w b off ps)
    (hkm : kind.tmod 4 = kd) (hkr : 0 ≤ kd ∧ kd ≤ 3) (hK : KindOf kd ft fg fnd) (HT : ∀ B c, TruthsOf ps r B 0 c ft ts)
    (his : ∀ t, IsTr ps t → (fnd (readR ps r t)).1 ≠ -1 → isOf kd (readR ps r t) = true) (hnone : bnd (numsL ps r fnd ts) = none → kd = 1 ∨ kd = 2)
    (HR : ∀ W, Below w.heap.size w W → Calls Try.prog 41 #[.agg #[.slice (some ⟨b, off, none⟩) ps.length cap], .agg #[.int .i64 r.d, .int .i64 r.k, .int .i64 r.o]] W fun e w' => e = .returned (.bool true) ∧ Below W.heap.size W w') :
    Calls Try.prog 9 #[.agg #[.slice (some ⟨b, off, none⟩) ps.length cap], .agg #[.int .i64 r.d, .int .i64 r.k, .int .i64 r.o], .int .u8 kind] w fun e w' => e = .returned (.bool true) ∧ Below w.heap.size w w' := by
  have F := sane_of hn h0 hg hr
  have HE : bothE ps r = 0 := by simp [bothE, hg, ruleE, hr]
  have hltb := block_lt_of_cell (hp 0 h0).1
  have HCV := Lib.hid fun W (hb : Below w.heap.size w W) => Curve_any b off cap ps W hn h0 (hp.below hb hltb)
  have HSP := Lib.hid fun (B c : Nat) W (h : PtsIn W B 0 ps) => Span_ok ft fg B 0 c kd ps r ts fnd W F HE (HT B c) hK.f hK.q h
  have HSH := Lib.hid fun (high : Bool) (B c : Nat) W (h : PtsIn W B 0 ps) => Shows_ok ft fg B 0 c kd high ps r ts fnd W F HE (HT B c) hK h Clone_any
  have HIT := Lib.hid fun (B c : Nat) t W (hb : Below w.heap.size w W) (ht : IsTr ps t) (hi : IntsIn W B 0 (t.take ps.length)) => IsTruth_eq b off cap B 0 c ps (t.take ps.length) W hn h0 (hp.below hb hltb) (by simp [ht.1]; omega) hi
  have HGD : Hid (∀ t, IsTr ps t → Good ps r (t.take ps.length)) := Lib.hid fun t ht => ⟨hn, h0, hg, hr, by simp [ht.1]; omega, fits_take ht⟩
  have HRD := Lib.hid fun (B2 c2 B3 c3 : Nat) t W (ht : IsTr ps t) h1 h2 => Read_ok B2 0 c2 B3 0 c3 ps r (t.take ps.length) W (HGD.out t ht) h1 h2
  have HPAD : Hid (∀ t, IsTr ps t → pad (t.take ps.length) = t) := Lib.hid fun t ht => pad_take ht hn
  have HNUM := Lib.hid fun x W => number_any kd x W (by omega)
  have HPR := Lib.hid fun (tl : Value) (nn : Int) (x : Rs) (B2 c2 : Nat) W h1 h2 HRR => ProveRead_yes tl kd nn ft fg fnd x r.d r.k r.o (some ⟨B2, 0, none⟩) ps.length c2 W hK h1 h2 HRR
  have HIS := Lib.hid his
  have HNN := Lib.hid hK.n
  have HNO := Lib.hid hnone
  have HRR := Lib.hid HR
  have HA := Lib.hid awake_any
  have HH0 := Lib.hid h0
  have HN := Lib.hid hn
  have hb2 := below2 w (.cells #[.slice (some ⟨b, off, none⟩) ps.length cap] 24) (.cells #[.int .i64 r.d, .int .i64 r.k, .int .i64 r.o] 26)
  obtain ⟨hx1, hx2⟩ := box2 w (.cells #[.slice (some ⟨b, off, none⟩) ps.length cap] 24) (.cells #[.int .i64 r.d, .int .i64 r.k, .int .i64 r.o] 26)
  have hwk : IntKind.u8.wrap kd = kd := by simp [IntKind.wrap, IntKind.signed, IntKind.bits]; omega
  generalize bnd (numsL ps r fnd ts) = ob at *
  clear HR hp hg hr hn h0 F HE his hnone HT hK hltb
  go_enter Try.func9, Try.ntmps9
  go_wp2_with fail
  generalize World.alloc (World.alloc w _) _ = W1 at *
  refine (HRR.out _ hb2).mono ?_
  rintro e w1 ⟨rfl, hb1⟩
  have HBW := Lib.hid (below_to hb2 hb1)
  have HC : Hid (∀ w', Below w1.heap.size w1 w' → w'.cell? ⟨w.heap.size, 0, none⟩ = some (.slice (some ⟨b, off, none⟩) ps.length cap) ∧ w'.cell? ⟨w.heap.size + 1, 0, none⟩ = some (.int .i64 r.d) ∧ w'.cell? ⟨w.heap.size + 1, 1, none⟩ = some (.int .i64 r.k) ∧ w'.cell? ⟨w.heap.size + 1, 2, none⟩ = some (.int .i64 r.o)) := Lib.hid fun w' h => by
    have z1 := (hb1.block _ (lt_of_block hx1)).trans hx1
    have z2 := (hb1.block _ (lt_of_block hx2)).trans hx2
    have y1 := (h.block _ (lt_of_block z1)).trans z1
    have y2 := (h.block _ (lt_of_block z2)).trans z2
    exact ⟨cell_of_row w' w.heap.size 0 _ _ _ y1, cell_of_row w' (w.heap.size + 1) 0 _ _ _ y2, cell_of_row w' (w.heap.size + 1) 1 _ _ _ y2, cell_of_row w' (w.heap.size + 1) 2 _ _ _ y2⟩
  have HB : Hid (Below w1.heap.size w1 w1) := Lib.hid (Below.refl _ _)
  clear hb1 hb2 hx1 hx2
  clear W1
  go_wp2
  refine wp_region_noPanic ?_
  refine wp_region_float (by kernel_rfl) (fun _ _ _ _ _ h => h) 9 _ rfl 8 rfl rfl (.cells #[.int .i64 0, .int .i64 0] 51) (fun a w => by kernel_rfl)
    [(false, 0), (false, 2), (false, 4), (true, 1), (true, 3), (true, 5), (false, 6), (false, 7), (false, 8)] [10, 11] (by kernel_rfl) ?_
  iterate 3
    (refine Walk.takes rfl rfl ?_; apply Exists.intro; refine ⟨fun w' hS => ?_, ?_⟩; (obtain ⟨d0, d1, d2, d3⟩ := HC.out w' (grow_to HB.out hS); clear hS; go_simp; with_reducible rfl); simp only [List.getElem_toArray, List.getElem_cons_succ, List.getElem_cons_zero, Act.put, List.setIfInBounds_toArray, List.set_cons_zero, List.set_cons_succ])
  refine Walk.calls rfl rfl ?_; apply Exists.intro; apply Exists.intro; refine ⟨fun w' hS => ?_, fun w' hba => ?_⟩; (clear hS; go_simp; exact ⟨rfl, rfl⟩)
  have hu0 := grow_to HB.out (grow_to (below_drawn _) hba)
  refine (HCV.out w' (below_to HBW.out hu0)).mono ?_
  rintro e u1 ⟨B2, c2, rfl, hp2, hB2, hbb⟩
  refine ⟨_, rfl, hbb, ?_⟩
  simp only [List.getElem_toArray, List.getElem_cons_succ, List.getElem_cons_zero, Act.put, List.setIfInBounds_toArray, List.set_cons_zero, List.set_cons_succ]
  have hl2 : B2 < u1.heap.size := block_lt_of_cell (hp2 0 HH0.out).1
  have hu1 := grow_to hu0 hbb
  clear hba hbb hB2 hu0
  refine Walk.calls rfl rfl ?_; apply Exists.intro; apply Exists.intro; refine ⟨fun w' hS => ?_, fun w' hba => ?_⟩; (clear hS; go_simp; exact ⟨rfl, rfl⟩)
  refine (Rule_any r.d r.k r.o w').mono ?_
  rintro e u2 ⟨rfl, hbb⟩
  refine ⟨_, rfl, hbb, ?_⟩
  simp only [List.getElem_toArray, List.getElem_cons_succ, List.getElem_cons_zero, Act.put, List.setIfInBounds_toArray, List.set_cons_zero, List.set_cons_succ]
  replace hp2 := (hp2.below hba hl2).below hbb (Nat.lt_of_lt_of_le hl2 hba.size)
  replace hl2 : B2 < u2.heap.size := block_lt_of_cell (hp2 0 HH0.out).1
  have hu2 := grow_to (grow_to hu1 hba) hbb
  clear hba hbb hu1
  refine Walk.calls rfl rfl ?_; apply Exists.intro; apply Exists.intro; refine ⟨fun w' hS => ?_, fun w' hba => ?_⟩; (clear hS; go_simp; exact ⟨rfl, rfl⟩)
  refine (HSP.out B2 c2 w' (hp2.below hba hl2)).mono ?_
  rintro e u3 ⟨rfl, hbb⟩
  refine ⟨_, rfl, hbb, ?_⟩
  simp only [List.getElem_toArray, List.getElem_cons_succ, List.getElem_cons_zero, Act.put, List.setIfInBounds_toArray, List.set_cons_zero, List.set_cons_succ]
  clear hba hbb hp2 hl2 hu2 u1 u2
  obtain ⟨lo, hi, ev, hsr, hev⟩ := span_form ob
  rw [hsr]
  have HEV := Lib.hid hev
  clear hsr hev
  iterate 3
    (refine Walk.takes rfl rfl ?_; apply Exists.intro; refine ⟨fun w' hS => ?_, ?_⟩; (clear hS; go_simp; with_reducible rfl); simp only [List.getElem_toArray, List.getElem_cons_succ, List.getElem_cons_zero, Act.put, List.setIfInBounds_toArray, List.set_cons_zero, List.set_cons_succ])
  refine Walk.fin ?_
  intro v7 hb7 b8 hbb8 hz8 hw7
  simp only [List.getElem_toArray, List.getElem_cons_succ, List.getElem_cons_zero, Act.put, List.setIfInBounds_toArray, List.set_cons_zero, List.set_cons_succ]
  have s51 : (Try.prog.info? 51).map (·.size) = some 2 := by kernel_rfl
  have n1 := set_whole b8 51 v7 #[.int .i64 0, .int .i64 0] #[.int .i64 lo, .int .i64 hi] rfl hz8
  have n3 := below_cells (b := b8) hbb8 [.int .i64 lo, .int .i64 hi] 0 v7 hw7
  refine Tail.skip rfl rfl (exec_store_row 51 (.tmp 8) (.tmp 36) rfl b8 0 #[.int .i64 lo, .int .i64 hi] rfl rfl (there_block hz8 (Nat.le_refl _)) s51 (by simp [Value.oneCell'])) n3 ?_
  simp only [List.getElem_toArray, List.getElem_cons_succ, List.getElem_cons_zero, Act.put, List.setIfInBounds_toArray, List.set_cons_zero, List.set_cons_succ]
  generalize v7.setCells b8 0 _ = w2 at *
  (refine Tail.value rfl rfl (by go_simp; with_reducible rfl) ?_; simp only [List.getElem_toArray, List.getElem_cons_succ, List.getElem_cons_zero, Act.put, List.setIfInBounds_toArray, List.set_cons_zero, List.set_cons_succ])
  refine Tail.done (NoPanic.normal ?_)
  clear hz8 hw7 hb7 s51 hbb8 u3
  clear v7
  replace HB := Lib.hid (grow_to HB.out n3)
  have N8 := Lib.hid n1
  clear n1 n3
  go_wp2
  refine wp_region_noPanic ?_
  refine wp_region_chain (fun w' => Below w2.heap.size w2 w') (fun _ _ h hb => grow_to h hb) (below_drawn _) (by kernel_rfl) (fun _ _ _ _ _ h => h)
    [(false, 0), (false, 2), (false, 4), (true, 1), (true, 3), (true, 5), (false, 6), (false, 7), (false, 8)] [9, 10] (by kernel_rfl) ?_
  iterate 3
    (refine Walk.takes rfl rfl ?_; apply Exists.intro; refine ⟨fun w' hS => ?_, ?_⟩; (obtain ⟨d0, d1, d2, d3⟩ := HC.out w' (grow_to HB.out hS); clear hS; go_simp; with_reducible rfl); simp only [List.getElem_toArray, List.getElem_cons_succ, List.getElem_cons_zero, Act.put, List.setIfInBounds_toArray, List.set_cons_zero, List.set_cons_succ])
  refine Walk.calls rfl rfl ?_; apply Exists.intro; apply Exists.intro; refine ⟨fun w' hS => ?_, fun w' hba => ?_⟩; (clear hS; go_simp; exact ⟨rfl, rfl⟩)
  have hu0 := grow_to HB.out (grow_to (below_drawn _) hba)
  refine (HCV.out w' (below_to HBW.out hu0)).mono ?_
  rintro e u1 ⟨B2, c2, rfl, hp2, hB2, hbb⟩
  refine ⟨_, rfl, hbb, ?_⟩
  simp only [List.getElem_toArray, List.getElem_cons_succ, List.getElem_cons_zero, Act.put, List.setIfInBounds_toArray, List.set_cons_zero, List.set_cons_succ]
  have hl2 : B2 < u1.heap.size := block_lt_of_cell (hp2 0 HH0.out).1
  have hu1 := grow_to hu0 hbb
  clear hba hbb hB2 hu0
  refine Walk.calls rfl rfl ?_; apply Exists.intro; apply Exists.intro; refine ⟨fun w' hS => ?_, fun w' hba => ?_⟩; (clear hS; go_simp; exact ⟨rfl, rfl⟩)
  refine (Rule_any r.d r.k r.o w').mono ?_
  rintro e u2 ⟨rfl, hbb⟩
  refine ⟨_, rfl, hbb, ?_⟩
  simp only [List.getElem_toArray, List.getElem_cons_succ, List.getElem_cons_zero, Act.put, List.setIfInBounds_toArray, List.set_cons_zero, List.set_cons_succ]
  replace hp2 := (hp2.below hba hl2).below hbb (Nat.lt_of_lt_of_le hl2 hba.size)
  replace hl2 : B2 < u2.heap.size := block_lt_of_cell (hp2 0 HH0.out).1
  have hu2 := grow_to (grow_to hu1 hba) hbb
  clear hba hbb hu1
  refine Walk.calls rfl rfl ?_; apply Exists.intro; apply Exists.intro; refine ⟨fun w' hS => ?_, fun w' hba => ?_⟩; (clear hS; go_simp; exact ⟨rfl, rfl⟩)
  refine (HSH.out false B2 c2 w' (hp2.below hba hl2)).mono ?_
  rintro e u3 ⟨v, rfl, hsp, hbb⟩
  refine ⟨_, rfl, hbb, ?_⟩
  simp only [List.getElem_toArray, List.getElem_cons_succ, List.getElem_cons_zero, Act.put, List.setIfInBounds_toArray, List.set_cons_zero, List.set_cons_succ]
  clear hba hbb hp2 hl2 hu2
  clear u1 u2
  obtain ⟨lv1, fv1, rfl, hq1⟩ := show_form hsp
  clear hsp
  have hq1' : ∀ W, Below u3.heap.size u3 W → ((ob = none ∧ fv1 = 7) ∨ ∃ lo hi t B c, ob = some (lo, hi) ∧ fv1 = 0 ∧ IsTr ps t ∧ (fnd (readR ps r t)).1 ≠ -1 ∧ (fnd (readR ps r t)).2 = (if false then hi else lo) ∧ lv1 = .slice (some ⟨B, 0, none⟩) ps.length c ∧ IntsIn W B 0 (t.take ps.length)) := fun W hW => by
    rcases hq1 with h | ⟨lo, hi, t, B, c, g1, g2, g3, g4, g5, g6, g7⟩
    · exact .inl h
    · exact .inr ⟨lo, hi, t, B, c, g1, g2, g3, g4, g5, g6, g7.below hW (block_lt_of_cell (g7 0 (by have := HH0.out; have := HN.out; simp [g3.1]; omega)))⟩
  clear hq1
  iterate 3
    (refine Walk.takes rfl rfl ?_; apply Exists.intro; refine ⟨fun w' hS => ?_, ?_⟩; (clear hS; go_simp; with_reducible rfl); simp only [List.getElem_toArray, List.getElem_cons_succ, List.getElem_cons_zero, Act.put, List.setIfInBounds_toArray, List.set_cons_zero, List.set_cons_succ])
  refine Walk.fin ?_
  intro w3 hb9 hS9
  have HQ1 := Lib.hid (hq1' _ hb9)
  clear hq1' hb9
  clear u3
  iterate 2
    (refine Tail.value rfl rfl (by go_simp; with_reducible rfl) ?_; simp only [List.getElem_toArray, List.getElem_cons_succ, List.getElem_cons_zero, Act.put, List.setIfInBounds_toArray, List.set_cons_zero, List.set_cons_succ])
  refine Tail.done (NoPanic.normal ?_)
  replace HB := Lib.hid (grow_to HB.out hS9)
  replace N8 := Lib.hid ((hS9.block _ (lt_of_block N8.out)).trans N8.out)
  clear hS9
  clear w2
  go_wp2
  refine wp_region_noPanic ?_
  refine wp_region_chain (fun w' => Below w3.heap.size w3 w') (fun _ _ h hb => grow_to h hb) (below_drawn _) (by kernel_rfl) (fun _ _ _ _ _ h => h)
    [(false, 0), (false, 2), (false, 4), (true, 1), (true, 3), (true, 5), (false, 6), (false, 7), (false, 8)] [9, 10] (by kernel_rfl) ?_
  iterate 3
    (refine Walk.takes rfl rfl ?_; apply Exists.intro; refine ⟨fun w' hS => ?_, ?_⟩; (obtain ⟨d0, d1, d2, d3⟩ := HC.out w' (grow_to HB.out hS); clear hS; go_simp; with_reducible rfl); simp only [List.getElem_toArray, List.getElem_cons_succ, List.getElem_cons_zero, Act.put, List.setIfInBounds_toArray, List.set_cons_zero, List.set_cons_succ])
  refine Walk.calls rfl rfl ?_; apply Exists.intro; apply Exists.intro; refine ⟨fun w' hS => ?_, fun w' hba => ?_⟩; (clear hS; go_simp; exact ⟨rfl, rfl⟩)
  have hu0 := grow_to HB.out (grow_to (below_drawn _) hba)
  refine (HCV.out w' (below_to HBW.out hu0)).mono ?_
  rintro e u1 ⟨B2, c2, rfl, hp2, hB2, hbb⟩
  refine ⟨_, rfl, hbb, ?_⟩
  simp only [List.getElem_toArray, List.getElem_cons_succ, List.getElem_cons_zero, Act.put, List.setIfInBounds_toArray, List.set_cons_zero, List.set_cons_succ]
  have hl2 : B2 < u1.heap.size := block_lt_of_cell (hp2 0 HH0.out).1
  have hu1 := grow_to hu0 hbb
  clear hba hbb hB2 hu0
  refine Walk.calls rfl rfl ?_; apply Exists.intro; apply Exists.intro; refine ⟨fun w' hS => ?_, fun w' hba => ?_⟩; (clear hS; go_simp; exact ⟨rfl, rfl⟩)
  refine (Rule_any r.d r.k r.o w').mono ?_
  rintro e u2 ⟨rfl, hbb⟩
  refine ⟨_, rfl, hbb, ?_⟩
  simp only [List.getElem_toArray, List.getElem_cons_succ, List.getElem_cons_zero, Act.put, List.setIfInBounds_toArray, List.set_cons_zero, List.set_cons_succ]
  replace hp2 := (hp2.below hba hl2).below hbb (Nat.lt_of_lt_of_le hl2 hba.size)
  replace hl2 : B2 < u2.heap.size := block_lt_of_cell (hp2 0 HH0.out).1
  have hu2 := grow_to (grow_to hu1 hba) hbb
  clear hba hbb hu1
  refine Walk.calls rfl rfl ?_; apply Exists.intro; apply Exists.intro; refine ⟨fun w' hS => ?_, fun w' hba => ?_⟩; (clear hS; go_simp; exact ⟨rfl, rfl⟩)
  refine (HSH.out true B2 c2 w' (hp2.below hba hl2)).mono ?_
  rintro e u3 ⟨v, rfl, hsp, hbb⟩
  refine ⟨_, rfl, hbb, ?_⟩
  simp only [List.getElem_toArray, List.getElem_cons_succ, List.getElem_cons_zero, Act.put, List.setIfInBounds_toArray, List.set_cons_zero, List.set_cons_succ]
  clear hba hbb hp2 hl2 hu2
  clear u1 u2
  obtain ⟨lv2, fv2, rfl, hq2⟩ := show_form hsp
  clear hsp
  have hq2' : ∀ W, Below u3.heap.size u3 W → ((ob = none ∧ fv2 = 7) ∨ ∃ lo hi t B c, ob = some (lo, hi) ∧ fv2 = 0 ∧ IsTr ps t ∧ (fnd (readR ps r t)).1 ≠ -1 ∧ (fnd (readR ps r t)).2 = (if true then hi else lo) ∧ lv2 = .slice (some ⟨B, 0, none⟩) ps.length c ∧ IntsIn W B 0 (t.take ps.length)) := fun W hW => by
    rcases hq2 with h | ⟨lo, hi, t, B, c, g1, g2, g3, g4, g5, g6, g7⟩
    · exact .inl h
    · exact .inr ⟨lo, hi, t, B, c, g1, g2, g3, g4, g5, g6, g7.below hW (block_lt_of_cell (g7 0 (by have := HH0.out; have := HN.out; simp [g3.1]; omega)))⟩
  clear hq2
  iterate 3
    (refine Walk.takes rfl rfl ?_; apply Exists.intro; refine ⟨fun w' hS => ?_, ?_⟩; (clear hS; go_simp; with_reducible rfl); simp only [List.getElem_toArray, List.getElem_cons_succ, List.getElem_cons_zero, Act.put, List.setIfInBounds_toArray, List.set_cons_zero, List.set_cons_succ])
  refine Walk.fin ?_
  intro w4 hb9 hS9
  have HQ2 := Lib.hid (hq2' _ hb9)
  clear hq2' hb9
  clear u3
  iterate 2
    (refine Tail.value rfl rfl (by go_simp; with_reducible rfl) ?_; simp only [List.getElem_toArray, List.getElem_cons_succ, List.getElem_cons_zero, Act.put, List.setIfInBounds_toArray, List.set_cons_zero, List.set_cons_succ])
  refine Tail.done (NoPanic.normal ?_)
  replace HB := Lib.hid (grow_to HB.out hS9)
  replace N8 := Lib.hid ((hS9.block _ (lt_of_block N8.out)).trans N8.out)
  have HQ1' : Hid ((ob = none ∧ fv1 = 7) ∨ ∃ lo hi t B c, ob = some (lo, hi) ∧ fv1 = 0 ∧ IsTr ps t ∧ (fnd (readR ps r t)).1 ≠ -1 ∧ (fnd (readR ps r t)).2 = lo ∧ lv1 = .slice (some ⟨B, 0, none⟩) ps.length c ∧ IntsIn w4 B 0 (t.take ps.length)) := by
    rcases HQ1.out with h | ⟨lo, hi, t, B, c, g1, g2, g3, g4, g5, g6, g7⟩
    · exact Lib.hid (.inl h)
    · exact Lib.hid (.inr ⟨lo, hi, t, B, c, g1, g2, g3, g4, by simpa using g5, g6, g7.below hS9 (block_lt_of_cell (g7 0 (by have := HH0.out; have := HN.out; simp [g3.1]; omega)))⟩)
  clear HQ1 hS9
  clear w3
  cases ob with
  | none =>
    have e1 : ev = 7 := by rcases HEV.out with ⟨_, h⟩ | ⟨h, _⟩; exact h; cases h
    have e2 : fv1 = 7 := by rcases HQ1'.out with ⟨_, h⟩ | ⟨lo, hi, t, B, c, h, _⟩; exact h; cases h
    have e3 : fv2 = 7 := by rcases HQ2.out with ⟨_, h⟩ | ⟨lo, hi, t, B, c, h, _⟩; exact h; cases h
    subst e1 e2 e3
    have hkd := HNO.out rfl
    clear HQ1' HQ2 HEV HNO
    rcases hkd with rfl | rfl
    all_goals
      go_wp2_with fail
      refine (HA.out _).mono ?_
      rintro e w5 ⟨rfl, hb5⟩
      have hbf := below_to HBW.out (grow_to HB.out hb5)
      clear hb5
      go_wp2
      go_ret
      exact ⟨rfl, hbf⟩
  | some o =>
    obtain ⟨e0, e1⟩ : o = (lo, hi) ∧ ev = 0 := by
      rcases HEV.out with ⟨h, _⟩ | ⟨h, h'⟩
      · cases h
      · exact ⟨by simpa using h, h'⟩
    subst e0 e1
    obtain ⟨t1, B1, c1, ht1, g1, k1, rfl, rfl, hi1⟩ : ∃ t B c, IsTr ps t ∧ (fnd (readR ps r t)).1 ≠ -1 ∧ (fnd (readR ps r t)).2 = lo ∧ fv1 = 0 ∧ lv1 = .slice (some ⟨B, 0, none⟩) ps.length c ∧ IntsIn w4 B 0 (t.take ps.length) := by
      rcases HQ1'.out with ⟨h, _⟩ | ⟨lo', hi', t, B, c, h, h2, h3, h4, h5, h6, h7⟩
      · cases h
      · obtain ⟨rfl, rfl⟩ : lo = lo' ∧ hi = hi' := by simpa using h
        exact ⟨t, B, c, h3, h4, h5, h2, h6, h7⟩
    obtain ⟨t2, B2, c2, ht2, g2, k2, rfl, rfl, hi2⟩ : ∃ t B c, IsTr ps t ∧ (fnd (readR ps r t)).1 ≠ -1 ∧ (fnd (readR ps r t)).2 = hi ∧ fv2 = 0 ∧ lv2 = .slice (some ⟨B, 0, none⟩) ps.length c ∧ IntsIn w4 B 0 (t.take ps.length) := by
      rcases HQ2.out with ⟨h, _⟩ | ⟨lo', hi', t, B, c, h, h2, h3, h4, h5, h6, h7⟩
      · cases h
      · obtain ⟨rfl, rfl⟩ : lo = lo' ∧ hi = hi' := by simpa using h
        exact ⟨t, B, c, h3, h4, by simpa using h5, h2, h6, h7⟩
    clear HQ1' HQ2 HEV HNO HSP HSH
    have HTL1 : Hid ((t1.take ps.length).length = ps.length) := Lib.hid (by have := HN.out; simp [ht1.1]; omega)
    have HTL2 : Hid ((t2.take ps.length).length = ps.length) := Lib.hid (by have := HN.out; simp [ht2.1]; omega)
    obtain ⟨x1, hx1⟩ : ∃ x, readR ps r (pad (t1.take ps.length)) = x := ⟨_, rfl⟩
    obtain ⟨x2, hx2⟩ : ∃ x, readR ps r (pad (t2.take ps.length)) = x := ⟨_, rfl⟩
    have HX1 := Lib.hid hx1
    have HX2 := Lib.hid hx2
    rw [HPAD.out t1 ht1] at hx1
    rw [HPAD.out t2 ht2] at hx2
    have hs1 := HIS.out t1 ht1 g1
    have hs2 := HIS.out t2 ht2 g2
    rw [hx1] at g1 k1 hs1
    rw [hx2] at g2 k2 hs2
    have hm1 := (HNN.out x1).symm.trans k1
    have hm2 := (HNN.out x2).symm.trans k2
    have HN1 := Lib.hid fun W => HNUM.out x1 W
    have HN2 := Lib.hid fun W => HNUM.out x2 W
    rw [hm1, hs1] at HN1
    rw [hm2, hs2] at HN2
    have G1 := Lib.hid g1
    have G2 := Lib.hid g2
    have K1 := Lib.hid k1
    have K2 := Lib.hid k2
    have HI1 := Lib.hid hi1
    have HI2 := Lib.hid hi2
    have HLB1 := Lib.hid (block_lt_of_cell (hi1 0 (by rw [HTL1.out]; exact HH0.out)))
    have HLB2 := Lib.hid (block_lt_of_cell (hi2 0 (by rw [HTL2.out]; exact HH0.out)))
    clear hx1 hx2 hs1 hs2 hm1 hm2 g1 g2 k1 k2 hi1 hi2 HNUM HIS HNN
    obtain ⟨d0, d1, d2, d3⟩ := HC.out w4 HB.out
    go_wp2_with fail
    have hit := HIT.out B1 c1 t1 w4 (below_to HBW.out HB.out) ht1 HI1.out
    rw [fits_take ht1] at hit
    refine hit.mono ?_
    rintro e w5 ⟨rfl, hb5⟩
    clear hit d0 d1 d2 d3
    replace HB := Lib.hid (grow_to HB.out hb5)
    replace N8 := Lib.hid ((hb5.block _ (lt_of_block N8.out)).trans N8.out)
    replace HI1 := Lib.hid (HI1.out.below hb5 HLB1.out)
    replace HI2 := Lib.hid (HI2.out.below hb5 HLB2.out)
    replace HLB1 := Lib.hid (Nat.lt_of_lt_of_le HLB1.out hb5.size)
    replace HLB2 := Lib.hid (Nat.lt_of_lt_of_le HLB2.out hb5.size)
    clear hb5
    obtain ⟨d0, d1, d2, d3⟩ := HC.out w5 HB.out
    go_wp2_with fail
    have hit := HIT.out B2 c2 t2 w5 (below_to HBW.out HB.out) ht2 HI2.out
    rw [fits_take ht2] at hit
    refine hit.mono ?_
    rintro e w6 ⟨rfl, hb5⟩
    clear hit d0 d1 d2 d3
    replace HB := Lib.hid (grow_to HB.out hb5)
    replace N8 := Lib.hid ((hb5.block _ (lt_of_block N8.out)).trans N8.out)
    replace HI1 := Lib.hid (HI1.out.below hb5 HLB1.out)
    replace HI2 := Lib.hid (HI2.out.below hb5 HLB2.out)
    replace HLB1 := Lib.hid (Nat.lt_of_lt_of_le HLB1.out hb5.size)
    replace HLB2 := Lib.hid (Nat.lt_of_lt_of_le HLB2.out hb5.size)
    clear hb5
    clear w4 w5
    go_wp2
    refine wp_region_noPanic ?_
    refine wp_region_float (by kernel_rfl) (fun _ _ _ _ _ h => h) 10 _ rfl 14 rfl rfl (.cells zero37 37) (fun a w => by kernel_rfl)
      [(false, 0), (false, 2), (false, 4), (true, 1), (true, 3), (true, 5), (true, 6), (false, 7), (false, 8), (false, 9)] [11, 12] (by kernel_rfl) ?_
    iterate 3
      (refine Walk.takes rfl rfl ?_; apply Exists.intro; refine ⟨fun w' hS => ?_, ?_⟩; (obtain ⟨d0, d1, d2, d3⟩ := HC.out w' (grow_to HB.out hS); clear hS; go_simp; with_reducible rfl); simp only [List.getElem_toArray, List.getElem_cons_succ, List.getElem_cons_zero, Act.put, List.setIfInBounds_toArray, List.set_cons_zero, List.set_cons_succ])
    refine Walk.calls rfl rfl ?_; apply Exists.intro; apply Exists.intro; refine ⟨fun w' hS => ?_, fun w' hba => ?_⟩; (clear hS; go_simp; exact ⟨rfl, rfl⟩)
    have hu0 := grow_to (below_drawn w6) hba
    refine (HCV.out w' (below_to HBW.out (grow_to HB.out hu0))).mono ?_
    rintro e u1 ⟨B4, c4, rfl, hp2, hB2, hbb⟩
    refine ⟨_, rfl, hbb, ?_⟩
    simp only [List.getElem_toArray, List.getElem_cons_succ, List.getElem_cons_zero, Act.put, List.setIfInBounds_toArray, List.set_cons_zero, List.set_cons_succ]
    have hl2 : B4 < u1.heap.size := block_lt_of_cell (hp2 0 HH0.out).1
    have hu1 := grow_to hu0 hbb
    clear hba hbb hB2 hu0
    refine Walk.calls rfl rfl ?_; apply Exists.intro; apply Exists.intro; refine ⟨fun w' hS => ?_, fun w' hba => ?_⟩; (clear hS; go_simp; exact ⟨rfl, rfl⟩)
    refine (Rule_any r.d r.k r.o w').mono ?_
    rintro e u2 ⟨rfl, hbb⟩
    refine ⟨_, rfl, hbb, ?_⟩
    simp only [List.getElem_toArray, List.getElem_cons_succ, List.getElem_cons_zero, Act.put, List.setIfInBounds_toArray, List.set_cons_zero, List.set_cons_succ]
    replace hp2 := (hp2.below hba hl2).below hbb (Nat.lt_of_lt_of_le hl2 hba.size)
    replace hl2 : B4 < u2.heap.size := block_lt_of_cell (hp2 0 HH0.out).1
    have hu2 := grow_to (grow_to hu1 hba) hbb
    clear hba hbb hu1
    refine Walk.calls rfl rfl ?_; apply Exists.intro; apply Exists.intro; refine ⟨fun w' hS => ?_, fun w' hba => ?_⟩; (clear hS; go_simp; exact ⟨rfl, rfl⟩)
    have hu3 := grow_to hu2 hba
    have hlist := list_any B1 0 c1 (t1.take ps.length) w' (by rw [HTL1.out]; exact HH0.out) (by have := HN.out; rw [HTL1.out]; omega) (HI1.out.below hu3 HLB1.out)
    rw [HTL1.out] at hlist
    refine hlist.mono ?_
    rintro e u3 ⟨B3, c3, rfl, hi3, hB3, hbb⟩
    refine ⟨_, rfl, hbb, ?_⟩
    simp only [List.getElem_toArray, List.getElem_cons_succ, List.getElem_cons_zero, Act.put, List.setIfInBounds_toArray, List.set_cons_zero, List.set_cons_succ]
    replace hp2 := (hp2.below hba hl2).below hbb (Nat.lt_of_lt_of_le hl2 hba.size)
    replace hl2 : B4 < u3.heap.size := block_lt_of_cell (hp2 0 HH0.out).1
    have hl3 := block_lt_of_cell (hi3 0 (by rw [HTL1.out]; exact HH0.out))
    clear hba hbb hu2 hu3 hB3 hlist
    refine Walk.calls rfl rfl ?_; apply Exists.intro; apply Exists.intro; refine ⟨fun w' hS => ?_, fun w' hba => ?_⟩; (clear hS; go_simp; exact ⟨rfl, rfl⟩)
    have hrd := HRD.out B4 c4 B3 c3 t1 w' ht1 (hp2.below hba hl2) (hi3.below hba hl3)
    rw [HX1.out] at hrd
    refine hrd.mono ?_
    rintro e u4 ⟨rfl, hbb⟩
    refine ⟨_, rfl, hbb, ?_⟩
    simp only [List.getElem_toArray, List.getElem_cons_succ, List.getElem_cons_zero, Act.put, List.setIfInBounds_toArray, List.set_cons_zero, List.set_cons_succ]
    clear hba hbb hp2 hi3 hl2 hl3 hrd
    clear u1 u2 u3
    iterate 3
      (refine Walk.takes rfl rfl ?_; apply Exists.intro; refine ⟨fun w' hS => ?_, ?_⟩; (clear hS; go_simp; with_reducible rfl); simp only [List.getElem_toArray, List.getElem_cons_succ, List.getElem_cons_zero, Act.put, List.setIfInBounds_toArray, List.set_cons_zero, List.set_cons_succ])
    refine Walk.fin ?_
    intro v7 hb7 b9 hbb8 hz8 hw7
    simp only [List.getElem_toArray, List.getElem_cons_succ, List.getElem_cons_zero, Act.put, List.setIfInBounds_toArray, List.set_cons_zero, List.set_cons_succ]
    have hs37 : (Try.prog.info? 37).map (·.size) = some (rsV x1).size := s37
    have n1 := set_whole b9 37 v7 zero37 (rsV x1) rfl hz8
    have n3 := below_cells (b := b9) hbb8 (rsV x1).toList 0 v7 hw7
    refine Tail.skip rfl rfl (exec_store_row 37 (.tmp 14) (.tmp 107) rfl b9 0 (rsV x1) rfl rfl (there_block hz8 (Nat.le_refl _)) hs37 (by simp [rsV, iV, Value.oneCell'])) n3 ?_
    simp only [List.getElem_toArray, List.getElem_cons_succ, List.getElem_cons_zero, Act.put, List.setIfInBounds_toArray, List.set_cons_zero, List.set_cons_succ]
    generalize v7.setCells b9 0 (rsV x1).toList = w7 at *
    (refine Tail.value rfl rfl (by go_simp; with_reducible rfl) ?_; simp only [List.getElem_toArray, List.getElem_cons_succ, List.getElem_cons_zero, Act.put, List.setIfInBounds_toArray, List.set_cons_zero, List.set_cons_succ])
    refine Tail.done (NoPanic.normal ?_)
    clear hz8 hw7 hb7 hs37 hbb8
    clear v7
    replace HB := Lib.hid (grow_to HB.out n3)
    replace N8 := Lib.hid ((n3.block _ (lt_of_block N8.out)).trans N8.out)
    replace HI1 := Lib.hid (HI1.out.below n3 HLB1.out)
    replace HI2 := Lib.hid (HI2.out.below n3 HLB2.out)
    replace HLB1 := Lib.hid (Nat.lt_of_lt_of_le HLB1.out n3.size)
    replace HLB2 := Lib.hid (Nat.lt_of_lt_of_le HLB2.out n3.size)
    have M1 := Lib.hid n1
    clear n1 n3
    clear w6
    go_wp2
    refine wp_region_noPanic ?_
    refine wp_region_float (by kernel_rfl) (fun _ _ _ _ _ h => h) 10 _ rfl 16 rfl rfl (.cells zero37 37) (fun a w => by kernel_rfl)
      [(false, 0), (false, 2), (false, 4), (true, 1), (true, 3), (true, 5), (true, 6), (false, 7), (false, 8), (false, 9)] [11, 12] (by kernel_rfl) ?_
    iterate 3
      (refine Walk.takes rfl rfl ?_; apply Exists.intro; refine ⟨fun w' hS => ?_, ?_⟩; (obtain ⟨d0, d1, d2, d3⟩ := HC.out w' (grow_to HB.out hS); clear hS; go_simp; with_reducible rfl); simp only [List.getElem_toArray, List.getElem_cons_succ, List.getElem_cons_zero, Act.put, List.setIfInBounds_toArray, List.set_cons_zero, List.set_cons_succ])
    refine Walk.calls rfl rfl ?_; apply Exists.intro; apply Exists.intro; refine ⟨fun w' hS => ?_, fun w' hba => ?_⟩; (clear hS; go_simp; exact ⟨rfl, rfl⟩)
    have hu0 := grow_to (below_drawn w7) hba
    refine (HCV.out w' (below_to HBW.out (grow_to HB.out hu0))).mono ?_
    rintro e u1 ⟨B4, c4, rfl, hp2, hB2, hbb⟩
    refine ⟨_, rfl, hbb, ?_⟩
    simp only [List.getElem_toArray, List.getElem_cons_succ, List.getElem_cons_zero, Act.put, List.setIfInBounds_toArray, List.set_cons_zero, List.set_cons_succ]
    have hl2 : B4 < u1.heap.size := block_lt_of_cell (hp2 0 HH0.out).1
    have hu1 := grow_to hu0 hbb
    clear hba hbb hB2 hu0
    refine Walk.calls rfl rfl ?_; apply Exists.intro; apply Exists.intro; refine ⟨fun w' hS => ?_, fun w' hba => ?_⟩; (clear hS; go_simp; exact ⟨rfl, rfl⟩)
    refine (Rule_any r.d r.k r.o w').mono ?_
    rintro e u2 ⟨rfl, hbb⟩
    refine ⟨_, rfl, hbb, ?_⟩
    simp only [List.getElem_toArray, List.getElem_cons_succ, List.getElem_cons_zero, Act.put, List.setIfInBounds_toArray, List.set_cons_zero, List.set_cons_succ]
    replace hp2 := (hp2.below hba hl2).below hbb (Nat.lt_of_lt_of_le hl2 hba.size)
    replace hl2 : B4 < u2.heap.size := block_lt_of_cell (hp2 0 HH0.out).1
    have hu2 := grow_to (grow_to hu1 hba) hbb
    clear hba hbb hu1
    refine Walk.calls rfl rfl ?_; apply Exists.intro; apply Exists.intro; refine ⟨fun w' hS => ?_, fun w' hba => ?_⟩; (clear hS; go_simp; exact ⟨rfl, rfl⟩)
    have hu3 := grow_to hu2 hba
    have hlist := list_any B2 0 c2 (t2.take ps.length) w' (by rw [HTL2.out]; exact HH0.out) (by have := HN.out; rw [HTL2.out]; omega) (HI2.out.below hu3 HLB2.out)
    rw [HTL2.out] at hlist
    refine hlist.mono ?_
    rintro e u3 ⟨B3, c3, rfl, hi3, hB3, hbb⟩
    refine ⟨_, rfl, hbb, ?_⟩
    simp only [List.getElem_toArray, List.getElem_cons_succ, List.getElem_cons_zero, Act.put, List.setIfInBounds_toArray, List.set_cons_zero, List.set_cons_succ]
    replace hp2 := (hp2.below hba hl2).below hbb (Nat.lt_of_lt_of_le hl2 hba.size)
    replace hl2 : B4 < u3.heap.size := block_lt_of_cell (hp2 0 HH0.out).1
    have hl3 := block_lt_of_cell (hi3 0 (by rw [HTL2.out]; exact HH0.out))
    clear hba hbb hu2 hu3 hB3 hlist
    refine Walk.calls rfl rfl ?_; apply Exists.intro; apply Exists.intro; refine ⟨fun w' hS => ?_, fun w' hba => ?_⟩; (clear hS; go_simp; exact ⟨rfl, rfl⟩)
    have hrd := HRD.out B4 c4 B3 c3 t2 w' ht2 (hp2.below hba hl2) (hi3.below hba hl3)
    rw [HX2.out] at hrd
    refine hrd.mono ?_
    rintro e u4 ⟨rfl, hbb⟩
    refine ⟨_, rfl, hbb, ?_⟩
    simp only [List.getElem_toArray, List.getElem_cons_succ, List.getElem_cons_zero, Act.put, List.setIfInBounds_toArray, List.set_cons_zero, List.set_cons_succ]
    clear hba hbb hp2 hi3 hl2 hl3 hrd
    clear u1 u2 u3
    iterate 3
      (refine Walk.takes rfl rfl ?_; apply Exists.intro; refine ⟨fun w' hS => ?_, ?_⟩; (clear hS; go_simp; with_reducible rfl); simp only [List.getElem_toArray, List.getElem_cons_succ, List.getElem_cons_zero, Act.put, List.setIfInBounds_toArray, List.set_cons_zero, List.set_cons_succ])
    refine Walk.fin ?_
    intro v7 hb7 b10 hbb8 hz8 hw7
    simp only [List.getElem_toArray, List.getElem_cons_succ, List.getElem_cons_zero, Act.put, List.setIfInBounds_toArray, List.set_cons_zero, List.set_cons_succ]
    have hs37 : (Try.prog.info? 37).map (·.size) = some (rsV x2).size := s37
    have n1 := set_whole b10 37 v7 zero37 (rsV x2) rfl hz8
    have n3 := below_cells (b := b10) hbb8 (rsV x2).toList 0 v7 hw7
    refine Tail.skip rfl rfl (exec_store_row 37 (.tmp 16) (.tmp 117) rfl b10 0 (rsV x2) rfl rfl (there_block hz8 (Nat.le_refl _)) hs37 (by simp [rsV, iV, Value.oneCell'])) n3 ?_
    simp only [List.getElem_toArray, List.getElem_cons_succ, List.getElem_cons_zero, Act.put, List.setIfInBounds_toArray, List.set_cons_zero, List.set_cons_succ]
    generalize v7.setCells b10 0 (rsV x2).toList = w8 at *
    (refine Tail.value rfl rfl (by go_simp; with_reducible rfl) ?_; simp only [List.getElem_toArray, List.getElem_cons_succ, List.getElem_cons_zero, Act.put, List.setIfInBounds_toArray, List.set_cons_zero, List.set_cons_succ])
    refine Tail.done (NoPanic.normal ?_)
    clear hz8 hw7 hb7 hs37 hbb8
    clear v7
    replace HB := Lib.hid (grow_to HB.out n3)
    replace N8 := Lib.hid ((n3.block _ (lt_of_block N8.out)).trans N8.out)
    replace HI1 := Lib.hid (HI1.out.below n3 HLB1.out)
    replace HI2 := Lib.hid (HI2.out.below n3 HLB2.out)
    replace HLB1 := Lib.hid (Nat.lt_of_lt_of_le HLB1.out n3.size)
    replace HLB2 := Lib.hid (Nat.lt_of_lt_of_le HLB2.out n3.size)
    have M2 := Lib.hid n1
    replace M1 := Lib.hid ((n3.block _ (lt_of_block M1.out)).trans M1.out)
    clear n1 n3
    clear w7
    have HF : Hid (∀ w', Below w8.heap.size w8 w' → (w'.cell? ⟨b9, 0, none⟩ = some (.int .i64 x1.st) ∧ w'.cell? ⟨b9, 1, none⟩ = some (.int .i64 x1.pk) ∧ w'.cell? ⟨b9, 2, none⟩ = some (.int .i64 x1.ya) ∧ w'.cell? ⟨b9, 3, none⟩ = some (.int .i64 x1.y) ∧ w'.cell? ⟨b9, 4, none⟩ = some (.int .i64 x1.ma) ∧ w'.cell? ⟨b9, 5, none⟩ = some (.int .i64 x1.pl) ∧ w'.cell? ⟨b9, 6, none⟩ = some (.int .i64 x1.wk)) ∧ (w'.cell? ⟨b10, 0, none⟩ = some (.int .i64 x2.st) ∧ w'.cell? ⟨b10, 1, none⟩ = some (.int .i64 x2.pk) ∧ w'.cell? ⟨b10, 2, none⟩ = some (.int .i64 x2.ya) ∧ w'.cell? ⟨b10, 3, none⟩ = some (.int .i64 x2.y) ∧ w'.cell? ⟨b10, 4, none⟩ = some (.int .i64 x2.ma) ∧ w'.cell? ⟨b10, 5, none⟩ = some (.int .i64 x2.pl) ∧ w'.cell? ⟨b10, 6, none⟩ = some (.int .i64 x2.wk)) ∧ w'.cell? ⟨b8, 0, none⟩ = some (.int .i64 lo) ∧ w'.cell? ⟨b8, 1, none⟩ = some (.int .i64 hi)) := Lib.hid fun w' h => by
      have y1 := (h.block _ (lt_of_block M1.out)).trans M1.out
      have y2 := (h.block _ (lt_of_block M2.out)).trans M2.out
      have y3 := (h.block _ (lt_of_block N8.out)).trans N8.out
      exact ⟨⟨cell_of_row w' b9 0 _ _ _ y1, cell_of_row w' b9 1 _ _ _ y1, cell_of_row w' b9 2 _ _ _ y1, cell_of_row w' b9 3 _ _ _ y1, cell_of_row w' b9 4 _ _ _ y1, cell_of_row w' b9 5 _ _ _ y1, cell_of_row w' b9 6 _ _ _ y1⟩, ⟨cell_of_row w' b10 0 _ _ _ y2, cell_of_row w' b10 1 _ _ _ y2, cell_of_row w' b10 2 _ _ _ y2, cell_of_row w' b10 3 _ _ _ y2, cell_of_row w' b10 4 _ _ _ y2, cell_of_row w' b10 5 _ _ _ y2, cell_of_row w' b10 6 _ _ _ y2⟩, cell_of_row w' b8 0 _ _ _ y3, cell_of_row w' b8 1 _ _ _ y3⟩
    rw [show rsV x1 = #[.int .i64 x1.st, .int .i64 x1.pk, .int .i64 x1.ya, .int .i64 x1.y, .int .i64 x1.ma, .int .i64 x1.pl, .int .i64 x1.wk] from rfl] at HN1
    rw [show rsV x2 = #[.int .i64 x2.st, .int .i64 x2.pk, .int .i64 x2.ya, .int .i64 x2.y, .int .i64 x2.ma, .int .i64 x2.pl, .int .i64 x2.wk] from rfl] at HN2
    obtain ⟨⟨f0, f1, f2, f3, f4, f5, f6⟩, -, -⟩ := HF.out w8 (Below.refl _ _)
    go_wp2_with fail
    refine (HN1.out w8).mono ?_
    rintro e w9 ⟨rfl, hb9⟩
    have G9 := Lib.hid hb9
    clear hb9 f0 f1 f2 f3 f4 f5 f6
    obtain ⟨-, ⟨f0, f1, f2, f3, f4, f5, f6⟩, -⟩ := HF.out w9 G9.out
    go_wp2_with fail
    refine (HN2.out w9).mono ?_
    rintro e w10 ⟨rfl, hb9⟩
    have G10 := Lib.hid (grow_to G9.out hb9)
    clear hb9 f0 f1 f2 f3 f4 f5 f6 G9
    clear w9
    have HF2 := Lib.hid fun w' (h : Below w10.heap.size w10 w') => (HF.out w' (grow_to G10.out h)).2.2
    replace HB := Lib.hid (grow_to HB.out G10.out)
    replace N8 := Lib.hid ((G10.out.block _ (lt_of_block N8.out)).trans N8.out)
    replace HI1 := Lib.hid (HI1.out.below G10.out HLB1.out)
    replace HI2 := Lib.hid (HI2.out.below G10.out HLB2.out)
    replace HLB1 := Lib.hid (Nat.lt_of_lt_of_le HLB1.out G10.out.size)
    replace HLB2 := Lib.hid (Nat.lt_of_lt_of_le HLB2.out G10.out.size)
    clear HF G10 M1 M2 N8
    clear w8
    go_wp2
    refine wp_region_noPanic ?_
    refine wp_region_chain (fun w' => Below w10.heap.size w10 w') (fun _ _ h hb => grow_to h hb) (below_drawn _) (by kernel_rfl) (fun _ _ _ _ _ h => h)
      [(false, 0), (false, 1), (false, 2), (false, 3), (false, 4), (false, 5), (false, 6), (false, 7), (false, 8), (false, 9), (false, 10), (false, 11), (false, 12), (false, 13), (false, 14), (false, 15), (false, 16), (false, 17), (false, 18), (false, 19), (false, 20), (false, 21), (false, 22), (false, 23), (false, 24), (false, 25), (false, 27), (false, 29), (false, 30), (false, 31), (true, 26), (true, 28), (true, 32), (false, 33), (false, 34), (false, 35), (false, 37), (false, 39), (false, 40), (false, 41), (true, 36), (true, 38), (true, 42), (false, 43), (false, 44), (true, 45), (false, 46)] [47] (by kernel_rfl) ?_
    iterate 30
      (refine Walk.takes rfl rfl ?_; apply Exists.intro; refine ⟨fun w' hS => ?_, ?_⟩; (obtain ⟨d0, d1, d2, d3⟩ := HC.out w' (grow_to HB.out hS); obtain ⟨n0, n1⟩ := HF2.out w' hS; clear hS; go_simp; with_reducible rfl); simp only [List.getElem_toArray, List.getElem_cons_succ, List.getElem_cons_zero, Act.put, List.setIfInBounds_toArray, List.set_cons_zero, List.set_cons_succ])
    refine Walk.calls rfl rfl ?_; apply Exists.intro; apply Exists.intro; refine ⟨fun w' hS => ?_, fun w' hba => ?_⟩; (clear hS; go_simp; exact ⟨rfl, rfl⟩)
    have hu0 := grow_to (below_drawn w10) hba
    refine (HCV.out w' (below_to HBW.out (grow_to HB.out hu0))).mono ?_
    rintro e u1 ⟨B4, c4, rfl, hp2, hB2, hbb⟩
    refine ⟨_, rfl, hbb, ?_⟩
    simp only [List.getElem_toArray, List.getElem_cons_succ, List.getElem_cons_zero, Act.put, List.setIfInBounds_toArray, List.set_cons_zero, List.set_cons_succ]
    have hl2 : B4 < u1.heap.size := block_lt_of_cell (hp2 0 HH0.out).1
    have hu1 := grow_to hu0 hbb
    clear hba hbb hB2 hu0
    refine Walk.calls rfl rfl ?_; apply Exists.intro; apply Exists.intro; refine ⟨fun w' hS => ?_, fun w' hba => ?_⟩; (clear hS; go_simp; exact ⟨rfl, rfl⟩)
    refine (Rule_any r.d r.k r.o w').mono ?_
    rintro e u2 ⟨rfl, hbb⟩
    refine ⟨_, rfl, hbb, ?_⟩
    simp only [List.getElem_toArray, List.getElem_cons_succ, List.getElem_cons_zero, Act.put, List.setIfInBounds_toArray, List.set_cons_zero, List.set_cons_succ]
    replace hp2 := (hp2.below hba hl2).below hbb (Nat.lt_of_lt_of_le hl2 hba.size)
    replace hl2 : B4 < u2.heap.size := block_lt_of_cell (hp2 0 HH0.out).1
    have hu2 := grow_to (grow_to hu1 hba) hbb
    clear hba hbb hu1
    refine Walk.calls rfl rfl ?_; apply Exists.intro; apply Exists.intro; refine ⟨fun w' hS => ?_, fun w' hba => ?_⟩; (clear hS; go_simp; exact ⟨rfl, rfl⟩)
    have hpr := HPR.out (.slice (some ⟨B1, 0, none⟩) ps.length c1) lo x1 B4 c4 w' G1.out K1.out (fun W hW => by
      have hrd := HRD.out B4 c4 B1 c1 t1 W ht1 ((hp2.below hba hl2).below hW (Nat.lt_of_lt_of_le hl2 hba.size)) (HI1.out.below (grow_to (grow_to hu2 hba) hW) HLB1.out)
      rw [HX1.out] at hrd
      exact hrd)
    refine hpr.mono ?_
    rintro e u3 ⟨rfl, hbb⟩
    refine ⟨_, rfl, hbb, ?_⟩
    simp only [List.getElem_toArray, List.getElem_cons_succ, List.getElem_cons_zero, Act.put, List.setIfInBounds_toArray, List.set_cons_zero, List.set_cons_succ]
    have hv1 := grow_to (grow_to hu2 hba) hbb
    clear hba hbb hp2 hl2 hu2 hpr
    clear u1 u2
    iterate 7
      (refine Walk.takes rfl rfl ?_; apply Exists.intro; refine ⟨fun w' hS => ?_, ?_⟩; (obtain ⟨d0, d1, d2, d3⟩ := HC.out w' (grow_to HB.out hS); obtain ⟨n0, n1⟩ := HF2.out w' hS; clear hS; go_simp; with_reducible rfl); simp only [List.getElem_toArray, List.getElem_cons_succ, List.getElem_cons_zero, Act.put, List.setIfInBounds_toArray, List.set_cons_zero, List.set_cons_succ])
    refine Walk.calls rfl rfl ?_; apply Exists.intro; apply Exists.intro; refine ⟨fun w' hS => ?_, fun w' hba => ?_⟩; (clear hS; go_simp; exact ⟨rfl, rfl⟩)
    have hu0 := grow_to (hv1) hba
    refine (HCV.out w' (below_to HBW.out (grow_to HB.out hu0))).mono ?_
    rintro e u1 ⟨B4, c4, rfl, hp2, hB2, hbb⟩
    refine ⟨_, rfl, hbb, ?_⟩
    simp only [List.getElem_toArray, List.getElem_cons_succ, List.getElem_cons_zero, Act.put, List.setIfInBounds_toArray, List.set_cons_zero, List.set_cons_succ]
    have hl2 : B4 < u1.heap.size := block_lt_of_cell (hp2 0 HH0.out).1
    have hu1 := grow_to hu0 hbb
    clear hba hbb hB2 hu0
    refine Walk.calls rfl rfl ?_; apply Exists.intro; apply Exists.intro; refine ⟨fun w' hS => ?_, fun w' hba => ?_⟩; (clear hS; go_simp; exact ⟨rfl, rfl⟩)
    refine (Rule_any r.d r.k r.o w').mono ?_
    rintro e u2 ⟨rfl, hbb⟩
    refine ⟨_, rfl, hbb, ?_⟩
    simp only [List.getElem_toArray, List.getElem_cons_succ, List.getElem_cons_zero, Act.put, List.setIfInBounds_toArray, List.set_cons_zero, List.set_cons_succ]
    replace hp2 := (hp2.below hba hl2).below hbb (Nat.lt_of_lt_of_le hl2 hba.size)
    replace hl2 : B4 < u2.heap.size := block_lt_of_cell (hp2 0 HH0.out).1
    have hu2 := grow_to (grow_to hu1 hba) hbb
    clear hba hbb hu1
    refine Walk.calls rfl rfl ?_; apply Exists.intro; apply Exists.intro; refine ⟨fun w' hS => ?_, fun w' hba => ?_⟩; (clear hS; go_simp; exact ⟨rfl, rfl⟩)
    have hpr := HPR.out (.slice (some ⟨B2, 0, none⟩) ps.length c2) hi x2 B4 c4 w' G2.out K2.out (fun W hW => by
      have hrd := HRD.out B4 c4 B2 c2 t2 W ht2 ((hp2.below hba hl2).below hW (Nat.lt_of_lt_of_le hl2 hba.size)) (HI2.out.below (grow_to (grow_to hu2 hba) hW) HLB2.out)
      rw [HX2.out] at hrd
      exact hrd)
    refine hpr.mono ?_
    rintro e u3 ⟨rfl, hbb⟩
    refine ⟨_, rfl, hbb, ?_⟩
    simp only [List.getElem_toArray, List.getElem_cons_succ, List.getElem_cons_zero, Act.put, List.setIfInBounds_toArray, List.set_cons_zero, List.set_cons_succ]
    have hv2 := grow_to (grow_to hu2 hba) hbb
    clear hba hbb hp2 hl2 hu2 hpr
    clear u1 u2
    iterate 2
      (refine Walk.takes rfl rfl ?_; apply Exists.intro; refine ⟨fun w' hS => ?_, ?_⟩; (clear hS; go_simp; with_reducible rfl); simp only [List.getElem_toArray, List.getElem_cons_succ, List.getElem_cons_zero, Act.put, List.setIfInBounds_toArray, List.set_cons_zero, List.set_cons_succ])
    refine Walk.calls rfl rfl ?_; apply Exists.intro; apply Exists.intro; refine ⟨fun w' hS => ?_, fun w' hba => ?_⟩; (clear hS; go_simp; exact ⟨rfl, rfl⟩)
    refine (HA.out w').mono ?_
    rintro e u4 ⟨rfl, hbb⟩
    refine ⟨_, rfl, hbb, ?_⟩
    simp only [List.getElem_toArray, List.getElem_cons_succ, List.getElem_cons_zero, Act.put, List.setIfInBounds_toArray, List.set_cons_zero, List.set_cons_succ]
    clear hba hbb
    iterate 1
      (refine Walk.takes rfl rfl ?_; apply Exists.intro; refine ⟨fun w' hS => ?_, ?_⟩; (clear hS; go_simp; with_reducible rfl); simp only [List.getElem_toArray, List.getElem_cons_succ, List.getElem_cons_zero, Act.put, List.setIfInBounds_toArray, List.set_cons_zero, List.set_cons_succ])
    refine Walk.fin fun w11 hb11 hS11 => ?_
    (refine Tail.value rfl rfl (by go_simp; with_reducible rfl) ?_; simp only [List.getElem_toArray, List.getElem_cons_succ, List.getElem_cons_zero, Act.put, List.setIfInBounds_toArray, List.set_cons_zero, List.set_cons_succ])
    refine Tail.done (NoPanic.normal ?_)
    have hbf := below_to HBW.out (grow_to HB.out hS11)
    clear hb11 hS11
    go_wp2
    go_ret
    exact ⟨rfl, hbf⟩
end Go.Proofs.Ytfjlnejeffkdoaa
