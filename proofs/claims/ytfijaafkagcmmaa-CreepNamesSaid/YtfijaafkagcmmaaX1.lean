/- The stretch of a plan in a room: its contract. Conditions: a valid room and plan, some rates that are allowed. -/
import Derived.Test.YtfijaafkagcmmaaV
namespace Go.Proofs.Ytfijaafkagcmmaa
open Go.RowKit Go.Shelf
attribute [local irreducible] arrV

set_option maxRecDepth 100000 in
set_option maxHeartbeats 4000000 in
theorem rstretch_any (n : Nat) (mv rv pv : Value) (ms : List Rg) (rs : List Rn) (ss : List Sg) (w : World) (hK : RoomOk ms rs) (hV : RoomV n w mv rv ms rs) (hP : PlanOk ms.length ss) (hPV : SegsV n w pv ss) (hne : okL ms rs ≠ []) :
    Calls Try.prog 62 #[.agg #[mv, rv], pv] w fun e w' => e = .returned (.agg #[.int .i64 (stretchL (okL ms rs) ss).lo, .int .i64 (stretchL (okL ms rs) ss).hi]) ∧ Below w.heap.size w w' := by
  have hn := hV.lt
  have hlen := hK.mat.len
  have HRE := Lib.hid fun high w' (h : Below w.heap.size w w') => reaching_any n high mv rv pv ms rs ss w' hK (hV.below h) hP (hPV.same (.below hn h)) hne
  have HST := Lib.hid fun x w' (hx : x ∈ okL ms rs) (h : Below w.heap.size w w') => stretch_any n ms.length (pad3 x) pv ss w' (pad3_len (by have := len_of (mem_okL.1 hx).1; omega)) (pad3_rates (ok_rates hK.mat hx)) hlen hP (hPV.same (.below hn h)) (Nat.le_trans hn h.size)
  have HE0 := Lib.hid (endAt_any false)
  have HE1 := Lib.hid (endAt_any true)
  rw [show endV false = .agg #[.func (.func 84) #[] #[], .func (.func 85) #[] #[]] from rfl] at HE0
  rw [show endV true = .agg #[.func (.func 82) #[] #[], .func (.func 83) #[] #[]] from rfl] at HE1
  obtain ⟨am, capm, rfl, -⟩ := hV.m
  obtain ⟨ar, capr, rfl, -⟩ := hV.r
  obtain ⟨ap, capp, rfl, -⟩ := hPV
  obtain ⟨y0, y1⟩ := box2 w (.cells #[.slice am ms.length capm, .slice ar rs.length capr] 100) (.cells #[.int .i64 0, .int .i64 0] 50)
  have hbb := below2 w (.cells #[.slice am ms.length capm, .slice ar rs.length capr] 100) (.cells #[.int .i64 0, .int .i64 0] 50)
  have Y0 := Lib.hid y0
  have Y1 := Lib.hid y1
  have HBB := Lib.hid hbb
  clear y0 y1 hbb
  go_enter Try.func62, Try.ntmps62
  go_wp2_with fail
  refine (HE0.out _).mono ?_
  rintro e w1 ⟨rfl, hb1⟩
  have Z0 := Lib.hid ((hb1.block _ (lt_of_block Y0.out)).trans Y0.out)
  have Z1 := Lib.hid ((hb1.block _ (lt_of_block Y1.out)).trans Y1.out)
  have HB1 := Lib.hid (below_to HBB.out hb1)
  clear hb1
  go_wp2_with fail
  refine (HE1.out _).mono ?_
  rintro e w2 ⟨rfl, hb2⟩
  have X0 := Lib.hid ((hb2.block _ (lt_of_block Z0.out)).trans Z0.out)
  have X1 := Lib.hid ((hb2.block _ (lt_of_block Z1.out)).trans Z1.out)
  have HB2 := Lib.hid (below_to HB1.out hb2)
  clear hb2
  go_wp2
  obtain ⟨q0, q1⟩ := box2 w2 (.cells #[.func (.func 84) #[] #[], .func (.func 85) #[] #[]] 116) (.cells #[.func (.func 82) #[] #[], .func (.func 83) #[] #[]] 116)
  have hbq := below2 w2 (.cells #[.func (.func 84) #[] #[], .func (.func 85) #[] #[]] 116) (.cells #[.func (.func 82) #[] #[], .func (.func 83) #[] #[]] 116)
  have V0 := Lib.hid ((hbq.block _ (lt_of_block X0.out)).trans X0.out)
  have V1 := Lib.hid ((hbq.block _ (lt_of_block X1.out)).trans X1.out)
  have Q0 := Lib.hid q0
  have Q1 := Lib.hid q1
  have HBQ := Lib.hid (below_to HB2.out hbq)
  clear q0 q1 hbq
  have hlt2 := lt_of_block X1.out
  generalize World.alloc (World.alloc w2 _) _ = W at *
  generalize w2.heap.size = b2 at *
  have HC : Hid (∀ w1, (Below w.heap.size w w1 ∧ w1.heap[w.heap.size]? = W.heap[w.heap.size]? ∧ w1.heap[b2]? = W.heap[b2]? ∧ w1.heap[b2 + 1]? = W.heap[b2 + 1]? ∧ W.heap.size ≤ w1.heap.size) → w1.cell? ⟨w.heap.size, 0, none⟩ = some (.slice am ms.length capm) ∧ w1.cell? ⟨w.heap.size, 1, none⟩ = some (.slice ar rs.length capr) ∧
      w1.cell? ⟨b2, 0, none⟩ = some (.func (.func 84) #[] #[]) ∧ w1.cell? ⟨b2, 1, none⟩ = some (.func (.func 85) #[] #[]) ∧ w1.cell? ⟨b2 + 1, 0, none⟩ = some (.func (.func 82) #[] #[]) ∧ w1.cell? ⟨b2 + 1, 1, none⟩ = some (.func (.func 83) #[] #[])) := Lib.hid fun w1 hS => by
    have z0 := hS.2.1.trans V0.out
    have z1 := hS.2.2.1.trans Q0.out
    have z2 := hS.2.2.2.1.trans Q1.out
    exact ⟨cell_of_row w1 _ 0 _ _ _ z0, cell_of_row w1 _ 1 _ _ _ z0, cell_of_row w1 _ 0 _ _ _ z1, cell_of_row w1 _ 1 _ _ _ z1, cell_of_row w1 _ 0 _ _ _ z2, cell_of_row w1 _ 1 _ _ _ z2⟩
  have l0 := lt_of_block V0.out
  have l1 := lt_of_block Q0.out
  have l2 := lt_of_block Q1.out
  refine wp_region_noPanic ?_
  refine wp_region_chain (fun w1 => Below w.heap.size w w1 ∧ w1.heap[w.heap.size]? = W.heap[w.heap.size]? ∧ w1.heap[b2]? = W.heap[b2]? ∧ w1.heap[b2 + 1]? = W.heap[b2 + 1]? ∧ W.heap.size ≤ w1.heap.size)
    (fun w1 w2 h hb => ⟨below_to h.1 hb, (hb.block _ (by omega)).trans h.2.1, (hb.block _ (by omega)).trans h.2.2.1, (hb.block _ (by omega)).trans h.2.2.2.1, Nat.le_trans h.2.2.2.2 hb.size⟩) ⟨below_to HBQ.out (below_drawn W), rfl, rfl, rfl, Nat.le_refl _⟩ (by kernel_rfl) (fun _ _ _ _ _ h => h)
    [(false, 0), (false, 1), (false, 2), (false, 3), (false, 4), (false, 6), (false, 9), (false, 10), (false, 11), (false, 12), (false, 13), (false, 15), (true, 5), (true, 7), (true, 8), (true, 14), (true, 16), (true, 17)] [18, 19] (by kernel_rfl) ?_
  iterate 12
    (refine Walk.takes rfl rfl ?_; apply Exists.intro; refine ⟨fun w1 hS => ?_, ?_⟩; (obtain ⟨d0, d1, d2, d3, d4, d5⟩ := HC.out w1 hS; go_simp; with_reducible rfl); simp only [List.getElem_toArray, List.getElem_cons_succ, List.getElem_cons_zero, Act.put, List.setIfInBounds_toArray, List.set_cons_zero, List.set_cons_succ])
  have hacc := below_drawn W
  refine Walk.calls rfl rfl ?_; apply Exists.intro; apply Exists.intro; refine ⟨fun w2 hS => ?_, fun w2 hb2 => ?_⟩; (clear hS; go_simp; exact ⟨rfl, rfl⟩)
  replace hacc := grow_to hacc hb2
  refine (HRE.out false w2 (below_to HBQ.out hacc)).mono ?_
  rintro e w3 ⟨⟨x, rfl, hF⟩, hb3⟩
  refine ⟨_, rfl, hb3, ?_⟩
  simp only [List.getElem_toArray, List.getElem_cons_succ, List.getElem_cons_zero, Act.put, List.setIfInBounds_toArray, List.set_cons_zero, List.set_cons_succ]
  replace hacc := grow_to hacc hb3
  clear hb2 hb3
  refine Walk.calls rfl rfl ?_; apply Exists.intro; apply Exists.intro; refine ⟨fun w2 hS => ?_, fun w2 hb2 => ?_⟩; (clear hS; go_simp; exact ⟨rfl, rfl⟩)
  replace hacc := grow_to hacc hb2
  refine (HST.out x w2 hF.1 (below_to HBQ.out hacc)).mono ?_
  rintro e w3 ⟨rfl, hb3⟩
  refine ⟨_, rfl, hb3, ?_⟩
  simp only [List.getElem_toArray, List.getElem_cons_succ, List.getElem_cons_zero, Act.put, List.setIfInBounds_toArray, List.set_cons_zero, List.set_cons_succ]
  replace hacc := grow_to hacc hb3
  clear hb2 hb3
  refine Walk.calls rfl rfl ?_; apply Exists.intro; apply Exists.intro; refine ⟨fun w2 hS => ?_, fun w2 hb2 => ?_⟩; (clear hS; go_simp; exact ⟨rfl, rfl⟩)
  replace hacc := grow_to hacc hb2
  refine (low_any _ _ w2).mono ?_
  rintro e w3 ⟨rfl, hb3⟩
  refine ⟨_, rfl, hb3, ?_⟩
  simp only [List.getElem_toArray, List.getElem_cons_succ, List.getElem_cons_zero, Act.put, List.setIfInBounds_toArray, List.set_cons_zero, List.set_cons_succ]
  replace hacc := grow_to hacc hb3
  clear hb2 hb3
  refine Walk.calls rfl rfl ?_; apply Exists.intro; apply Exists.intro; refine ⟨fun w2 hS => ?_, fun w2 hb2 => ?_⟩; (clear hS; go_simp; exact ⟨rfl, rfl⟩)
  replace hacc := grow_to hacc hb2
  refine (HRE.out true w2 (below_to HBQ.out hacc)).mono ?_
  rintro e w3 ⟨⟨y, rfl, hG⟩, hb3⟩
  refine ⟨_, rfl, hb3, ?_⟩
  simp only [List.getElem_toArray, List.getElem_cons_succ, List.getElem_cons_zero, Act.put, List.setIfInBounds_toArray, List.set_cons_zero, List.set_cons_succ]
  replace hacc := grow_to hacc hb3
  clear hb2 hb3
  refine Walk.calls rfl rfl ?_; apply Exists.intro; apply Exists.intro; refine ⟨fun w2 hS => ?_, fun w2 hb2 => ?_⟩; (clear hS; go_simp; exact ⟨rfl, rfl⟩)
  replace hacc := grow_to hacc hb2
  refine (HST.out y w2 hG.1 (below_to HBQ.out hacc)).mono ?_
  rintro e w3 ⟨rfl, hb3⟩
  refine ⟨_, rfl, hb3, ?_⟩
  simp only [List.getElem_toArray, List.getElem_cons_succ, List.getElem_cons_zero, Act.put, List.setIfInBounds_toArray, List.set_cons_zero, List.set_cons_succ]
  replace hacc := grow_to hacc hb3
  clear hb2 hb3
  refine Walk.calls rfl rfl ?_; apply Exists.intro; apply Exists.intro; refine ⟨fun w2 hS => ?_, fun w2 hb2 => ?_⟩; (clear hS; go_simp; exact ⟨rfl, rfl⟩)
  replace hacc := grow_to hacc hb2
  refine (high_any _ _ w2).mono ?_
  rintro e w3 ⟨rfl, hb3⟩
  refine ⟨_, rfl, hb3, ?_⟩
  simp only [List.getElem_toArray, List.getElem_cons_succ, List.getElem_cons_zero, Act.put, List.setIfInBounds_toArray, List.set_cons_zero, List.set_cons_succ]
  replace hacc := grow_to hacc hb3
  clear hb2 hb3
  refine Walk.fin ?_
  rintro w4 hb4 hS4
  (refine Tail.value rfl rfl (by go_simp; with_reducible rfl) ?_; simp only [List.getElem_toArray, List.getElem_cons_succ, List.getElem_cons_zero, Act.put, List.setIfInBounds_toArray, List.set_cons_zero, List.set_cons_succ])
  rw [(pad3_loS x ss).1, (pad3_loS y ss).2, far_lo hF, far_hi hG]
  have hx1 := ((grow_to hacc hb4).block _ (lt_of_block V1.out)).trans V1.out
  have hs50 : (Try.prog.info? 50).map (·.size) = some 2 := by kernel_rfl
  refine Tail.skip rfl rfl (exec_store_row 50 (.tmp 4) (.tmp 27) rfl (w.heap.size + 1) 0 #[.int .i64 (stretchL (okL ms rs) ss).lo, .int .i64 (stretchL (okL ms rs) ss).hi] rfl rfl (there_block hx1 (Nat.le_refl _)) hs50 (by simp [Value.oneCell'])) ?_ ?_
  · exact ⟨below_cells (by omega) _ 0 _ hS4.1, (heap_cells _ _ _ _ _ (by omega)).trans hS4.2.1, (heap_cells _ _ _ _ _ (by omega)).trans hS4.2.2.1, (heap_cells _ _ _ _ _ (by omega)).trans hS4.2.2.2.1, by rw [size_cells]; exact hS4.2.2.2.2⟩
  refine Tail.done (NoPanic.normal ?_)
  have q9 := set_whole (w.heap.size + 1) 50 w4 #[.int .i64 0, .int .i64 0] #[.int .i64 (stretchL (okL ms rs) ss).lo, .int .i64 (stretchL (okL ms rs) ss).hi] rfl hx1
  have hb9 := below_cells (b := w.heap.size + 1) (by omega) [Value.int .i64 (stretchL (okL ms rs) ss).lo, Value.int .i64 (stretchL (okL ms rs) ss).hi] 0 w4 hS4.1
  have Q9 := Lib.hid q9
  have HB9 := Lib.hid hb9
  clear hb4 hS4 hx1 hacc q9 hb9
  simp only [Array.toList] at Q9 HB9 ⊢
  generalize World.setCells w4 _ _ _ = w9 at *
  go_wp2
  exact bodyPost_ret (results_cell_row rfl _ _ (w.heap.size + 1) 50 _ _ _ rfl Q9.out s50f rfl hs50) rfl ⟨rfl, HB9.out⟩
end Go.Proofs.Ytfijaafkagcmmaa
