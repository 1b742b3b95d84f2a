/- The span of a life: its contract. Conditions: a valid room, some rates that are allowed. Rates, Stretch and Life, in a valid room: contracts. Conditions: these. -/
import Derived.Test.YtfijaafkagcmmaaW2
import Derived.Test.YtfijaafkagcmmaaX1
namespace Go.Proofs.Ytfijaafkagcmmaa
open Go.RowKit Go.Shelf
attribute [local irreducible] arrV

theorem s50 : (Try.prog.info? 50).map (·.size) = some 2 := by kernel_rfl

set_option maxRecDepth 100000 in
set_option maxHeartbeats 4000000 in
theorem life_any (n : Nat) (mv rv : Value) (ms : List Rg) (rs : List Rn) (b st : Int) (w : World) (hK : RoomOk ms rs) (hV : RoomV n w mv rv ms rs) (hne : okL ms rs ≠ []) (hb : 0 ≤ b ∧ b < ms.length) (hst : 0 ≤ st ∧ st ≤ 10000000000) :
    Calls Try.prog 68 #[.agg #[mv, rv], .int .i64 b, .int .i64 st] w fun e w' => e = .returned (.agg #[.int .i64 (lifeL (okL ms rs) b st).lo, .int .i64 (lifeL (okL ms rs) b st).hi]) ∧ Below w.heap.size w w' := by
  obtain ⟨B, rfl⟩ : ∃ B : Nat, b = (B : Int) := ⟨b.toNat, by omega⟩
  have hBn : B < ms.length := by omega
  have hR : ∀ x, x ∈ okL ms rs → Rates x := fun x hx => ok_rates hK.mat hx
  have hlh := lowR_high hne (B : Int)
  have hln := lowR_nonneg hne hR (B : Int)
  have HRA := Lib.hid fun w' (h : Below w.heap.size w w') => ranges_any n mv rv ms rs w' hK (hV.below h) hne
  have HH := Lib.hid (hours_any st (highR (okL ms rs) (B : Int)))
  have HL := Lib.hid (hours_any st (lowR (okL ms rs) (B : Int)))
  have hlen := hK.mat.len
  obtain ⟨am, capm, rfl, -⟩ := hV.m
  obtain ⟨ar, capr, rfl, -⟩ := hV.r
  obtain ⟨y0, y1⟩ := box2 w (.cells #[.slice am ms.length capm, .slice ar rs.length capr] 100) (.cells #[.int .i64 0, .int .i64 0] 50)
  have hbb := below2 w (.cells #[.slice am ms.length capm, .slice ar rs.length capr] 100) (.cells #[.int .i64 0, .int .i64 0] 50)
  have hsb : ((w.alloc (.cells #[.slice am ms.length capm, .slice ar rs.length capr] 100)).alloc (.cells #[.int .i64 0, .int .i64 0] 50)).heap.size = w.heap.size + 2 := by simp
  have Y0 := Lib.hid y0
  have Y1 := Lib.hid y1
  have HBB := Lib.hid hbb
  have HSB := Lib.hid hsb
  have elo : Hid ((lifeL (okL ms rs) (B : Int) st).lo = hoursP st (highR (okL ms rs) (B : Int))) := Lib.hid rfl
  have ehi : Hid ((lifeL (okL ms rs) (B : Int) st).hi = hoursP st (lowR (okL ms rs) (B : Int))) := Lib.hid rfl
  rw [elo.out, ehi.out]
  clear y0 y1 hbb hsb hV hK hR hb elo ehi
  go_enter Try.func68, Try.ntmps68
  go_wp2_with fail
  refine (HRA.out _ HBB.out).mono ?_
  rintro e w2 ⟨⟨v, rfl, hown⟩, hb2⟩
  have V1 := Lib.hid ((hb2.block _ (lt_of_block Y1.out)).trans Y1.out)
  have HB2 := Lib.hid (below_to HBB.out hb2)
  obtain ⟨g, cap, rfl, hbg, hlg, hcell⟩ := own_head hown (by rw [rangesL_len]; omega)
  obtain ⟨k1, k2, -, -⟩ := hcell B (by rw [rangesL_len]; exact hBn)
  rw [rangesL_rg hBn] at k1 k2
  rw [HSB.out] at hbg
  rw [rangesL_len]
  have hBI : (B : Int) < ms.length := by omega
  have hzo : (0 : Nat) + B * 2 = B * 2 := by omega
  clear hcell hown hb2
  go_wp2
  have HC : Hid (∀ w1, (Below w.heap.size w w1 ∧ w1.heap[g]? = w2.heap[g]? ∧ w2.heap.size ≤ w1.heap.size) → w1.cell? ⟨g, B * 2, none⟩ = some (.int .i64 (lowR (okL ms rs) (B : Int))) ∧ w1.cell? ⟨g, B * 2 + 1, none⟩ = some (.int .i64 (highR (okL ms rs) (B : Int)))) := Lib.hid fun w1 hS =>
    ⟨(World.cell?_of_block (w := w2) (w' := w1) (a := ⟨g, B * 2, none⟩) hS.2.1).trans k1, (World.cell?_of_block (w := w2) (w' := w1) (a := ⟨g, B * 2 + 1, none⟩) hS.2.1).trans k2⟩
  have hl1 := lt_of_block V1.out
  refine wp_region_noPanic ?_
  refine wp_region_chain (fun w1 => Below w.heap.size w w1 ∧ w1.heap[g]? = w2.heap[g]? ∧ w2.heap.size ≤ w1.heap.size)
    (fun w1 w2 h hb => ⟨below_to h.1 hb, (hb.block _ (by omega)).trans h.2.1, Nat.le_trans h.2.2 hb.size⟩) ⟨below_to HB2.out (below_drawn w2), rfl, Nat.le_refl _⟩ (by kernel_rfl) (fun _ _ _ _ _ h => h)
    [(false, 0), (false, 1), (false, 2), (false, 3), (false, 4), (false, 5), (false, 7), (false, 8), (false, 9), (false, 10), (false, 11), (false, 12), (true, 6), (true, 13)] [14, 15] (by kernel_rfl) ?_
  iterate 12
    (refine Walk.takes rfl rfl ?_; apply Exists.intro; refine ⟨fun w1 hS => ?_, ?_⟩; (obtain ⟨d0, d1⟩ := HC.out w1 hS; go_simp; with_reducible rfl); simp only [List.getElem_toArray, List.getElem_cons_succ, List.getElem_cons_zero, Act.put, List.setIfInBounds_toArray, List.set_cons_zero, List.set_cons_succ])
  have hacc := below_drawn w2
  refine Walk.calls rfl rfl ?_; apply Exists.intro; apply Exists.intro; refine ⟨fun w5 hS => ?_, fun w5 hb2 => ?_⟩; (clear hS; go_simp; exact ⟨rfl, rfl⟩)
  replace hacc := grow_to hacc hb2
  refine (HH.out w5 hst.1 hst.2 (by omega) (by omega)).mono ?_
  rintro e w3 ⟨rfl, hb3⟩
  refine ⟨_, rfl, hb3, ?_⟩
  simp only [List.getElem_toArray, List.getElem_cons_succ, List.getElem_cons_zero, Act.put, List.setIfInBounds_toArray, List.set_cons_zero, List.set_cons_succ]
  replace hacc := grow_to hacc hb3
  clear hb2 hb3
  refine Walk.calls rfl rfl ?_; apply Exists.intro; apply Exists.intro; refine ⟨fun w5 hS => ?_, fun w5 hb2 => ?_⟩; (clear hS; go_simp; exact ⟨rfl, rfl⟩)
  replace hacc := grow_to hacc hb2
  refine (HL.out w5 hst.1 hst.2 (by omega) (by omega)).mono ?_
  rintro e w3 ⟨rfl, hb3⟩
  refine ⟨_, rfl, hb3, ?_⟩
  simp only [List.getElem_toArray, List.getElem_cons_succ, List.getElem_cons_zero, Act.put, List.setIfInBounds_toArray, List.set_cons_zero, List.set_cons_succ]
  replace hacc := grow_to hacc hb3
  clear hb2 hb3
  refine Walk.fin ?_
  rintro w4 hb4 hS4
  (refine Tail.value rfl rfl (by go_simp; with_reducible rfl) ?_; simp only [List.getElem_toArray, List.getElem_cons_succ, List.getElem_cons_zero, Act.put, List.setIfInBounds_toArray, List.set_cons_zero, List.set_cons_succ])
  have hx1 := ((grow_to hacc hb4).block _ hl1).trans V1.out
  refine Tail.skip rfl rfl (exec_store_row 50 (.tmp 6) (.tmp 28) rfl (w.heap.size + 1) 0 #[.int .i64 (hoursP st (highR (okL ms rs) (B : Int))), .int .i64 (hoursP st (lowR (okL ms rs) (B : Int)))] rfl rfl (there_block hx1 (Nat.le_refl _)) s50 (by simp [Value.oneCell'])) ?_ ?_
  · exact ⟨below_cells (by omega) _ 0 _ hS4.1, (heap_cells _ _ _ _ _ (by omega)).trans hS4.2.1, by rw [size_cells]; exact hS4.2.2⟩
  refine Tail.done (NoPanic.normal ?_)
  have q9 := set_whole (w.heap.size + 1) 50 w4 #[.int .i64 0, .int .i64 0] #[.int .i64 (hoursP st (highR (okL ms rs) (B : Int))), .int .i64 (hoursP st (lowR (okL ms rs) (B : Int)))] rfl hx1
  have hb9 := below_cells (b := w.heap.size + 1) (by omega) [Value.int .i64 (hoursP st (highR (okL ms rs) (B : Int))), Value.int .i64 (hoursP st (lowR (okL ms rs) (B : Int)))] 0 w4 hS4.1
  have Q9 := Lib.hid q9
  have HB9 := Lib.hid hb9
  clear hb4 hS4 hx1 hacc q9 hb9
  simp only [Array.toList] at Q9 HB9 ⊢
  generalize World.setCells w4 _ _ _ = w9 at *
  go_wp2
  exact bodyPost_ret (results_cell_row rfl _ _ (w.heap.size + 1) 50 _ _ _ rfl Q9.out s50f rfl s50) rfl ⟨rfl, HB9.out⟩
end Go.Proofs.Ytfijaafkagcmmaa
namespace Go.Proofs.Ytfijaafkagcmmaa
open Go.RowKit Go.Shelf
attribute [local irreducible] arrV

theorem someB_ne {L : List (List Int)} (h : L ≠ []) : failE (someB L) = 0 := by
  cases L with
  | nil => exact absurd rfl h
  | cons a l => rfl
theorem someB_nil {L : List (List Int)} (h : L = []) : failE (someB L) = 9 := by rw [h]; rfl

set_option maxRecDepth 100000 in
set_option maxHeartbeats 1000000 in
theorem Rates_ok (n : Nat) (mv rv : Value) (ms : List Rg) (rs : List Rn) (w : World) (hK : RoomOk ms rs) (hV : RoomV n w mv rv ms rs) (hne : okL ms rs ≠ []) :
    Calls Try.prog 27 #[.agg #[mv], rv] w fun e w' => (∃ v, e = .returned (.tuple #[v, .int .i64 (okL ms rs).length, .int .i64 0]) ∧ w'.ownsRow w.heap.size 50 2 v (rangesL (okL ms rs) ms.length).length (flatR (rangesL (okL ms rs) ms.length))) ∧ Below w.heap.size w w' := by
  have HCA := Lib.hid fun w' (h : Below w.heap.size w w') => checkAllowed_ok n mv rv ms rs w' hK (hV.below h)
  rw [someB_ne hne] at HCA
  have HRA := Lib.hid fun w' (h : Below w.heap.size w w') => ranges_any n mv rv ms rs w' hK (hV.below h) hne
  obtain ⟨am, capm, rfl, -⟩ := hV.m
  obtain ⟨ar, capr, rfl, -⟩ := hV.r
  have HX := Lib.hid (box2 w (.cells #[.slice am ms.length capm] 33) (.cells #[.slice am ms.length capm, .slice ar rs.length capr] 100)).2
  have HB := Lib.hid (below2 w (.cells #[.slice am ms.length capm] 33) (.cells #[.slice am ms.length capm, .slice ar rs.length capr] 100))
  clear hV hK
  go_enter Try.func27, Try.ntmps27
  go_wp2_with fail
  refine (HCA.out _ HB.out).mono ?_
  rintro e w1 ⟨rfl, hb1⟩
  obtain ⟨c0, c1, hx1⟩ := two_cells HX.out hb1
  have HB1 := Lib.hid (below_to HB.out hb1)
  clear hb1 hx1
  go_wp2_with fail
  refine (HRA.out _ HB1.out).mono ?_
  rintro e w2 ⟨⟨v, rfl, hown⟩, hb2⟩
  have HO := Lib.hid (ownsRow_mono HB1.out.size hown)
  have HB2 := Lib.hid (below_to HB1.out hb2)
  clear hb2 hown c0 c1
  go_wp2
  go_ret3
  exact ⟨⟨v, rfl, HO.out⟩, HB2.out⟩
set_option maxRecDepth 100000 in
set_option maxHeartbeats 1000000 in
theorem Rates_fail (n : Nat) (mv rv : Value) (ms : List Rg) (rs : List Rn) (w : World) (hK : RoomOk ms rs) (hV : RoomV n w mv rv ms rs) (hne : okL ms rs = []) :
    Calls Try.prog 27 #[.agg #[mv], rv] w fun e w' => e = .returned (.tuple #[.slice none 0 0, .int .i64 0, .int .i64 9]) ∧ Below w.heap.size w w' := by
  have HCA := Lib.hid fun w' (h : Below w.heap.size w w') => checkAllowed_ok n mv rv ms rs w' hK (hV.below h)
  rw [someB_nil hne] at HCA
  obtain ⟨am, capm, rfl, -⟩ := hV.m
  obtain ⟨ar, capr, rfl, -⟩ := hV.r
  have HB := Lib.hid (below2 w (.cells #[.slice am ms.length capm] 33) (.cells #[.slice am ms.length capm, .slice ar rs.length capr] 100))
  clear hV hK
  go_enter Try.func27, Try.ntmps27
  go_wp2_with fail
  refine (HCA.out _ HB.out).mono ?_
  rintro e w1 ⟨rfl, hb1⟩
  have HB1 := Lib.hid (below_to HB.out hb1)
  clear hb1
  go_wp2
  go_ret3
  exact ⟨rfl, HB1.out⟩

set_option maxRecDepth 100000 in
set_option maxHeartbeats 1000000 in
theorem Stretch_ok (n : Nat) (mv rv pv : Value) (ms : List Rg) (rs : List Rn) (ss : List Sg) (w : World) (hK : RoomOk ms rs) (hV : RoomV n w mv rv ms rs) (hP : PlanOk ms.length ss) (hPV : SegsV n w pv ss) (hne : okL ms rs ≠ []) :
    Calls Try.prog 30 #[.agg #[mv], rv, pv] w fun e w' => e = .returned (.tuple #[.agg #[.int .i64 (stretchL (okL ms rs) ss).lo, .int .i64 (stretchL (okL ms rs) ss).hi], .int .i64 0]) ∧ Below w.heap.size w w' := by
  have hn := hV.lt
  have HCA := Lib.hid fun w' (h : Below w.heap.size w w') => checkPlan_ok n mv rv pv ms rs ss w' hK (hV.below h) hP (hPV.same (.below hn h))
  rw [someB_ne hne] at HCA
  have HRA := Lib.hid fun w' (h : Below w.heap.size w w') => rstretch_any n mv rv pv ms rs ss w' hK (hV.below h) hP (hPV.same (.below hn h)) hne
  obtain ⟨am, capm, rfl, -⟩ := hV.m
  obtain ⟨ar, capr, rfl, -⟩ := hV.r
  obtain ⟨ap, capp, rfl, -⟩ := hPV
  obtain ⟨-, y1, y2⟩ := box3 w (.cells #[.slice am ms.length capm] 33) (.cells #[.int .i64 0, .int .i64 0] 50) (.cells #[.slice am ms.length capm, .slice ar rs.length capr] 100)
  have HX := Lib.hid y2
  have HR := Lib.hid y1
  have HB := Lib.hid (below3 w (.cells #[.slice am ms.length capm] 33) (.cells #[.int .i64 0, .int .i64 0] 50) (.cells #[.slice am ms.length capm, .slice ar rs.length capr] 100))
  generalize (stretchL (okL ms rs) ss).lo = lo at *
  generalize (stretchL (okL ms rs) ss).hi = hi at *
  clear hV hK y1 y2
  go_enter Try.func30, Try.ntmps30
  go_wp2_with fail
  refine (HCA.out _ HB.out).mono ?_
  rintro e w1 ⟨rfl, hb1⟩
  obtain ⟨c0, c1, hx1⟩ := two_cells HX.out hb1
  have HR1 := Lib.hid ((hb1.block _ (lt_of_block HR.out)).trans HR.out)
  have HB1 := Lib.hid (below_to HB.out hb1)
  clear hb1 hx1
  go_wp2_with fail
  refine (HRA.out _ HB1.out).mono ?_
  rintro e w2 ⟨rfl, hb2⟩
  have hr2 := (hb2.block _ (lt_of_block HR1.out)).trans HR1.out
  have HR2 := Lib.hid hr2
  have d0 := cell_of_row w2 (w.heap.size + 1) 0 _ _ _ hr2
  have d1 := cell_of_row w2 (w.heap.size + 1) 1 _ _ _ hr2
  have f0 := frozen_of_row w2 (w.heap.size + 1) 0 _ _ hr2
  have f1 := frozen_of_row w2 (w.heap.size + 1) 1 _ _ hr2
  have l1 := lt_of_block hr2
  simp at d0 d1
  have HB2 := Lib.hid (below_to HB1.out hb2)
  clear hb2 hr2 c0 c1
  go_wp2
  refine bodyPost_ret (v := .tuple #[.agg #[.int .i64 lo, .int .i64 hi], .int .i64 0]) ?_ rfl ⟨rfl, put2_below _ _ HB2.out (by omega)⟩
  simp [results, Try.results30, go_sem, *]
set_option maxRecDepth 100000 in
set_option maxHeartbeats 1000000 in
theorem Stretch_fail (n : Nat) (mv rv pv : Value) (ms : List Rg) (rs : List Rn) (ss : List Sg) (w : World) (hK : RoomOk ms rs) (hV : RoomV n w mv rv ms rs) (hP : PlanOk ms.length ss) (hPV : SegsV n w pv ss) (hne : okL ms rs = []) :
    Calls Try.prog 30 #[.agg #[mv], rv, pv] w fun e w' => e = .returned (.tuple #[.agg #[.int .i64 0, .int .i64 0], .int .i64 9]) ∧ Below w.heap.size w w' := by
  have hn := hV.lt
  have HCA := Lib.hid fun w' (h : Below w.heap.size w w') => checkPlan_ok n mv rv pv ms rs ss w' hK (hV.below h) hP (hPV.same (.below hn h))
  rw [someB_nil hne] at HCA
  obtain ⟨am, capm, rfl, -⟩ := hV.m
  obtain ⟨ar, capr, rfl, -⟩ := hV.r
  obtain ⟨ap, capp, rfl, -⟩ := hPV
  obtain ⟨-, y1, y2⟩ := box3 w (.cells #[.slice am ms.length capm] 33) (.cells #[.int .i64 0, .int .i64 0] 50) (.cells #[.slice am ms.length capm, .slice ar rs.length capr] 100)
  have HR := Lib.hid y1
  have HB := Lib.hid (below3 w (.cells #[.slice am ms.length capm] 33) (.cells #[.int .i64 0, .int .i64 0] 50) (.cells #[.slice am ms.length capm, .slice ar rs.length capr] 100))
  clear hV hK y1 y2
  go_enter Try.func30, Try.ntmps30
  go_wp2_with fail
  refine (HCA.out _ HB.out).mono ?_
  rintro e w1 ⟨rfl, hb1⟩
  have hr2 := (hb1.block _ (lt_of_block HR.out)).trans HR.out
  have d0 := cell_of_row w1 (w.heap.size + 1) 0 _ _ _ hr2
  have d1 := cell_of_row w1 (w.heap.size + 1) 1 _ _ _ hr2
  have f0 := frozen_of_row w1 (w.heap.size + 1) 0 _ _ hr2
  have f1 := frozen_of_row w1 (w.heap.size + 1) 1 _ _ hr2
  have l1 := lt_of_block hr2
  simp at d0 d1
  have HB1 := Lib.hid (below_to HB.out hb1)
  clear hb1 hr2
  go_wp2
  refine bodyPost_ret (v := .tuple #[.agg #[.int .i64 0, .int .i64 0], .int .i64 9]) ?_ rfl ⟨rfl, ?_⟩
  · simp [results, Try.results30, go_sem, *]
  · exact put2_below _ _ HB1.out (by omega)

set_option maxRecDepth 100000 in
set_option maxHeartbeats 1000000 in
theorem Life_ok (n : Nat) (mv rv : Value) (ms : List Rg) (rs : List Rn) (b st : Int) (w : World) (hK : RoomOk ms rs) (hV : RoomV n w mv rv ms rs) (hb : 0 ≤ b ∧ b < ms.length) (hst : 0 ≤ st ∧ st ≤ 10000000000) (hne : okL ms rs ≠ []) :
    Calls Try.prog 36 #[.agg #[mv], rv, .int .i64 b, .int .i64 st] w fun e w' => e = .returned (.tuple #[.agg #[.int .i64 (lifeL (okL ms rs) b st).lo, .int .i64 (lifeL (okL ms rs) b st).hi], .int .i64 0]) ∧ Below w.heap.size w w' := by
  have HCA := Lib.hid fun w' (h : Below w.heap.size w w') => checkLife_ok n mv rv ms rs b st w' hK (hV.below h) hb hst
  rw [someB_ne hne] at HCA
  have HRA := Lib.hid fun w' (h : Below w.heap.size w w') => life_any n mv rv ms rs b st w' hK (hV.below h) hne hb hst
  obtain ⟨am, capm, rfl, -⟩ := hV.m
  obtain ⟨ar, capr, rfl, -⟩ := hV.r
  obtain ⟨-, y1, y2⟩ := box3 w (.cells #[.slice am ms.length capm] 33) (.cells #[.int .i64 0, .int .i64 0] 50) (.cells #[.slice am ms.length capm, .slice ar rs.length capr] 100)
  have HX := Lib.hid y2
  have HR := Lib.hid y1
  have HB := Lib.hid (below3 w (.cells #[.slice am ms.length capm] 33) (.cells #[.int .i64 0, .int .i64 0] 50) (.cells #[.slice am ms.length capm, .slice ar rs.length capr] 100))
  generalize (lifeL (okL ms rs) b st).lo = lo at *
  generalize (lifeL (okL ms rs) b st).hi = hi at *
  clear hV hK y1 y2 hb hst
  go_enter Try.func36, Try.ntmps36
  go_wp2_with fail
  refine (HCA.out _ HB.out).mono ?_
  rintro e w1 ⟨rfl, hb1⟩
  obtain ⟨c0, c1, hx1⟩ := two_cells HX.out hb1
  have HR1 := Lib.hid ((hb1.block _ (lt_of_block HR.out)).trans HR.out)
  have HB1 := Lib.hid (below_to HB.out hb1)
  clear hb1 hx1
  go_wp2_with fail
  refine (HRA.out _ HB1.out).mono ?_
  rintro e w2 ⟨rfl, hb2⟩
  have hr2 := (hb2.block _ (lt_of_block HR1.out)).trans HR1.out
  have d0 := cell_of_row w2 (w.heap.size + 1) 0 _ _ _ hr2
  have d1 := cell_of_row w2 (w.heap.size + 1) 1 _ _ _ hr2
  have f0 := frozen_of_row w2 (w.heap.size + 1) 0 _ _ hr2
  have f1 := frozen_of_row w2 (w.heap.size + 1) 1 _ _ hr2
  have l1 := lt_of_block hr2
  simp at d0 d1
  have HB2 := Lib.hid (below_to HB1.out hb2)
  clear hb2 hr2 c0 c1
  go_wp2
  refine bodyPost_ret (v := .tuple #[.agg #[.int .i64 lo, .int .i64 hi], .int .i64 0]) ?_ rfl ⟨rfl, put2_below _ _ HB2.out (by omega)⟩
  simp [results, Try.results36, go_sem, *]
set_option maxRecDepth 100000 in
set_option maxHeartbeats 1000000 in
theorem Life_fail (n : Nat) (mv rv : Value) (ms : List Rg) (rs : List Rn) (b st : Int) (w : World) (hK : RoomOk ms rs) (hV : RoomV n w mv rv ms rs) (hb : 0 ≤ b ∧ b < ms.length) (hst : 0 ≤ st ∧ st ≤ 10000000000) (hne : okL ms rs = []) :
    Calls Try.prog 36 #[.agg #[mv], rv, .int .i64 b, .int .i64 st] w fun e w' => e = .returned (.tuple #[.agg #[.int .i64 0, .int .i64 0], .int .i64 9]) ∧ Below w.heap.size w w' := by
  have HCA := Lib.hid fun w' (h : Below w.heap.size w w') => checkLife_ok n mv rv ms rs b st w' hK (hV.below h) hb hst
  rw [someB_nil hne] at HCA
  obtain ⟨am, capm, rfl, -⟩ := hV.m
  obtain ⟨ar, capr, rfl, -⟩ := hV.r
  obtain ⟨-, y1, y2⟩ := box3 w (.cells #[.slice am ms.length capm] 33) (.cells #[.int .i64 0, .int .i64 0] 50) (.cells #[.slice am ms.length capm, .slice ar rs.length capr] 100)
  have HR := Lib.hid y1
  have HB := Lib.hid (below3 w (.cells #[.slice am ms.length capm] 33) (.cells #[.int .i64 0, .int .i64 0] 50) (.cells #[.slice am ms.length capm, .slice ar rs.length capr] 100))
  clear hV hK y1 y2 hb hst
  go_enter Try.func36, Try.ntmps36
  go_wp2_with fail
  refine (HCA.out _ HB.out).mono ?_
  rintro e w1 ⟨rfl, hb1⟩
  have hr2 := (hb1.block _ (lt_of_block HR.out)).trans HR.out
  have d0 := cell_of_row w1 (w.heap.size + 1) 0 _ _ _ hr2
  have d1 := cell_of_row w1 (w.heap.size + 1) 1 _ _ _ hr2
  have f0 := frozen_of_row w1 (w.heap.size + 1) 0 _ _ hr2
  have f1 := frozen_of_row w1 (w.heap.size + 1) 1 _ _ hr2
  have l1 := lt_of_block hr2
  simp at d0 d1
  have HB1 := Lib.hid (below_to HB.out hb1)
  clear hb1 hr2
  go_wp2
  refine bodyPost_ret (v := .tuple #[.agg #[.int .i64 0, .int .i64 0], .int .i64 9]) ?_ rfl ⟨rfl, ?_⟩
  · simp [results, Try.results36, go_sem, *]
  · exact put2_below _ _ HB1.out (by omega)
end Go.Proofs.Ytfijaafkagcmmaa
